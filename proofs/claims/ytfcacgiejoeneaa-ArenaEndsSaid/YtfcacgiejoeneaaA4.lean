/- The law ArenaSets, walked. -/
import Derived.Test.YtfcacgiejoeneaaA1
import Derived.Test.YtfcacgiejoeneaaA2
import Derived.Test.YtfcacgiejoeneaaA3
import Derived.Deep.CutRange
set_option linter.unusedSimpArgs false
set_option linter.unusedVariables false
namespace Go.Proofs.Ytfcacgiejoeneaa
open Go Go.RowKit Go.Shelf
attribute [local go_sem] Oper.semAt_some
theorem Blk.two {w : World} {b : Nat} {x y : Value} {T : TypeId} (h : Blk w b #[x, y] T) : w.cell? ⟨b, 0, none⟩ = some x ∧ w.cell? ⟨b, 1, none⟩ = some y := ⟨by rw [h.cell]; rfl, by rw [h.cell]; rfl⟩
theorem Blk.one {w : World} {b : Nat} {x : Value} {T : TypeId} (h : Blk w b #[x] T) : w.cell? ⟨b, 0, none⟩ = some x := by rw [h.cell]; rfl
theorem results_b {fn : Func} {p : Tmp} (h : fn.results = #[.cell p 4]) (tmps : Array Value) (w : World) (b : Nat) (v : Bool) (hp : tmps.getD p undef = .pointer (some ⟨b, 0, none⟩)) (hc : w.cell? ⟨b, 0, none⟩ = some (.bool v)) : (results fn tmps).run Try.prog w = .ok (.bool v) w := by
  have hp' : tmps[p]?.getD undef = .pointer (some ⟨b, 0, none⟩) := by simpa using hp
  simp [results, h, hp', asAddr]
  go_simp
/-- A new arena, the world said. -/
theorem new_eq (most : Int) (h0 : 0 ≤ most) (w : World) :
    Calls Try.prog 9 #[.int .i64 most] w fun e w' => e = .returned (.pointer (some ⟨w.heap.size, 0, none⟩)) ∧ w' = w.alloc (.cells #[.slice none 0 0, .int .i64 most, .int .i64 0, .pointer (some ⟨w.heap.size, 0, none⟩)] 61) := by
  go_enter Try.func9, Try.ntmps9
  go_wp2_with fail
  go_ret
  exact ⟨rfl, rfl⟩
theorem new_nil (most : Int) (h0 : most < 0) (w : World) : Calls Try.prog 9 #[.int .i64 most] w fun e w' => e = .returned (.pointer none) ∧ w = w' := by
  go_enter Try.func9, Try.ntmps9
  go_wp2_with fail
  go_ret
  exact ⟨rfl, rfl⟩
theorem new_op (most : Int) (h0 : 0 ≤ most) (w : World) :
    Calls Try.prog 9 #[.int .i64 most] w fun e w' => ∃ k, e = .returned (.pointer (some ⟨k, 0, none⟩)) ∧ w.heap.size ≤ k ∧ Blk w' k #[.slice none 0 0, .int .i64 most, .int .i64 0, .pointer (some ⟨k, 0, none⟩)] 61 ∧ Below w.heap.size w w' := by
  refine (new_eq most h0 w).mono ?_
  rintro e w' ⟨rfl, rfl⟩
  exact ⟨_, rfl, Nat.le_refl _, Blk.new _ _ _, B1 _ _⟩
/-- Ended normally, and no other way. -/
def calm (Q : Exit → Act → World → Prop) : Exit → Act → World → Prop
  | .normal, a, w => Q .normal a w
  | _, _, _ => False
theorem calm_le (Q : Exit → Act → World → Prop) : ∀ e a w, calm Q e a w → Q e a w := by
  intro e a w h
  cases e <;> first | exact h | exact h.elim
theorem Blk.turn {w w' : World} {b c : Nat} {vs : Array Value} {T : TypeId} {u u' : Value} (h : Blk w b vs T) (ht : Turn w w' c u u') (h1 : b ≠ c) (h2 : u.ownBlock ≠ some b) : Blk w' b vs T := (ht.block b h.lt h1 h2).trans h
theorem Blk.old {wa wb we : World} {b : Nat} {vs : Array Value} {T : TypeId} (h : Blk wb b vs T) (h1 : Below wa.heap.size wa wb) (h2 : Below wa.heap.size wa we) (hl : b < wa.heap.size) : Blk we b vs T :=
  (h2.block b hl).trans ((h1.block b hl).symm.trans h)
theorem turn_drew {w wd w' : World} {b : Nat} {v v' : Value} (e : wd = { w with drawn := w.drawn + 1 }) (h : Turn wd w' b v v') : Turn w w' b v v' := by
  subst e
  exact ⟨h.os, h.tape, h.output, h.size, h.block, h.fresh⟩
/-- Set, whether the number is a thing's or the next one. -/
theorem set_both (b n : Nat) (most : Int) (v : Value) (l : List Int) (base p : Nat) (x : Int) (hp : p ≤ l.length) (w : World) (h : Ar 61 3 w base b most n v (ints l)) :
    ∃ E : Int, (E == 0) = decide ((p : Int) < l.length) ∧ Calls Try.prog 16 #[.pointer (some ⟨b, 0, none⟩), .int .i64 p, .int .i64 x] w fun e w' => e = .returned (.int .i64 E) ∧ Ar 61 3 w' base b most n v (ints (l.set p x)) ∧ Turn w w' b v v := by
  by_cases hlt : p < l.length
  · refine ⟨0, by simp; omega, ?_⟩
    have := set_yes b most n v (ints l) base p x (by rw [ints_length]; exact hlt) w h
    rw [ints_set] at this
    exact this
  · refine ⟨6, by simp; omega, ?_⟩
    refine (set_no b most n v (ints l) base p x (.inr (by rw [ints_length]; omega)) w h).mono ?_
    rintro e w' ⟨he, rfl⟩
    refine ⟨he, ?_, ⟨rfl, rfl, rfl, Nat.le_refl _, fun _ _ _ _ => rfl, fun _ h => .inl h⟩⟩
    rw [List.set_eq_of_length_le (by omega)]
    exact h
theorem neT {w : World} {b c : Nat} {vs us : Array Value} {T U : TypeId} (h : Blk w b vs T) (k : Blk w c us U) (hT : T ≠ U) : b ≠ c := fun e => by
  subst e
  have := (show w.heap[b]? = _ from h).symm.trans (show w.heap[b]? = _ from k)
  cases this
  exact hT rfl
theorem own0 {w : World} {base e size n : Nat} {v : Value} {xs : List Value} (h : w.ownsRow base e size v n xs) : w.ownsRow 0 e size v n xs :=
  ⟨h.1, h.2.imp id (fun ⟨g, cap, cur, a, _, r⟩ => ⟨g, cap, cur, a, Nat.zero_le _, r⟩)⟩
/-- What lies as the loop goes. -/
structure Facts (W : World) (kk d0 k8 d1 d2 kb ka : Nat) (A : Option Addr) (c : Nat) (l : List Int) (p : Nat) (pk5 : Int) (v5 v3 : Value) (x : Int) (B : Nat) (wa : World) : Prop where
  k : Blk W kk #[.int .i64 (p : Int)] 3
  z : Blk W d0 #[.slice A l.length c] 28
  e : Blk W k8 #[.pointer (some ⟨kb, 0, none⟩)] 25
  o : Blk W d1 #[.int .i64 x] 3
  r : Blk W d2 #[.bool false] 4
  b : Ar 61 3 W B kb ((l.length : Int) + 1) pk5 v5 (ints l)
  a : Ar 61 3 W B ka l.length l.length v3 (ints (l.set p x))
  w : Below B wa W
theorem Facts.low {W W' W0 : World} {kk d0 k8 d1 d2 kb ka : Nat} {A : Option Addr} {c : Nat} {l : List Int} {p : Nat} {pk5 : Int} {v5 v3 : Value} {x : Int} {B : Nat} {wa : World}
    (h : Facts W kk d0 k8 d1 d2 kb ka A c l p pk5 v5 v3 x B wa) (h0 : Facts W0 kk d0 k8 d1 d2 kb ka A c l p pk5 v5 v3 x B wa) (hb : Below W0.heap.size W W') (hB : B ≤ W0.heap.size) : Facts W' kk d0 k8 d1 d2 kb ka A c l p pk5 v5 v3 x B wa :=
  ⟨h.k.below hb h0.k.lt, h.z.below hb h0.z.lt, h.e.below hb h0.e.lt, h.o.below hb h0.o.lt, h.r.below hb h0.r.lt,
    h.b.kept (hb.block _ h0.b.blk.lt) (fun k e => hb.block k (h0.b.own.lt k e).2), h.a.kept (hb.block _ h0.a.blk.lt) (fun k e => hb.block k (h0.a.own.lt k e).2), h.w.trans (hb.mono hB)⟩
/-- Two new arenas, and a variable that holds one. -/
structure Two (w : World) (B ka kb k8 : Nat) (n : Nat) : Prop where
  a : Blk w ka #[.slice none 0 0, .int .i64 n, .int .i64 0, .pointer (some ⟨ka, 0, none⟩)] 61
  b : Blk w kb #[.slice none 0 0, .int .i64 ((n : Int) + 1), .int .i64 0, .pointer (some ⟨kb, 0, none⟩)] 61
  v : Blk w k8 #[.pointer (some ⟨kb, 0, none⟩)] 25
  la : B ≤ ka
  lb : B ≤ kb
  lv : B ≤ k8
theorem two_store {w : World} {B ka kb k8 n : Nat} (ha : Blk w ka #[.slice none 0 0, .int .i64 n, .int .i64 0, .pointer (some ⟨ka, 0, none⟩)] 61) (hb : Blk w kb #[.slice none 0 0, .int .i64 ((n : Int) + 1), .int .i64 0, .pointer (some ⟨kb, 0, none⟩)] 61)
    (h8 : Blk w k8 #[.pointer none] 25) (la : B ≤ ka) (lb : B ≤ kb) (l8 : B ≤ k8) : Two (w.setCell ⟨k8, 0, none⟩ (.pointer (some ⟨kb, 0, none⟩))) B ka kb k8 n := by
  have ne : ∀ k vs, Blk w k vs 61 → k ≠ k8 := fun k vs h e => by
    subst e
    have := (show w.heap[k]? = _ from h).symm.trans (show w.heap[k]? = _ from h8)
    cases this
  exact ⟨(heap_setCell_other _ _ _ _ (ne _ _ ha)).trans ha, (heap_setCell_other _ _ _ _ (ne _ _ hb)).trans hb, heap_setCell_same w k8 0 _ 25 _ h8, la, lb, l8⟩
set_option maxRecDepth 100000 in
set_option maxHeartbeats 4000000 in
theorem sets_any (A : Option Addr) (l : List Int) (c : Nat) (hnc : A = none → c = 0) (at_ x : Int) (hat : -9223372036854775808 ≤ at_ ∧ at_ < 9223372036854775808) (h : l.length ≤ 400) (w : World) (hA : Lies w A (ints l)) :
    Calls Try.prog 6 #[.slice A l.length c, .int .i64 at_, .int .i64 x] w fun e w' => e = .returned (.bool true) ∧ Below w.heap.size w w' := by
  have HA := Lib.hid hA
  have NC := Lib.hid hnc
  have PK := Lib.hid (fun w => pick_any at_ (l.length + 1) hat (by omega) w)
  have hp0 := Int.emod_nonneg at_ (show (l.length : Int) + 1 ≠ 0 by omega)
  have hp1 := Int.emod_lt_of_pos at_ (show (0 : Int) < l.length + 1 by omega)
  obtain ⟨p, ep⟩ : ∃ p : Nat, at_ % (l.length + 1) = p := ⟨(at_ % (l.length + 1)).toNat, by omega⟩
  rw [ep] at PK hp0 hp1
  have hp2 : p ≤ l.length := by omega
  have hw1 : IntKind.i64.wrap ((l.length : Int) + 1) = l.length + 1 := IntWalk.i64_in _ (by omega)
  clear hA hnc hat ep hp0 hp1
  refine (callsIn_wide (n := 12)).1 ?_
  refine callsIn_of_wp_marks Try.func6 rfl trivial ?_ rfl
  simp only [Try.ntmps6, List.size_toArray, List.length_cons, List.length_nil, Nat.reduceAdd, Nat.reduceSub, Array.replicate_succ, Array.replicate_zero, List.push_toArray, List.append_toArray, List.nil_append, List.cons_append]
  refine wpIn_wide.2 ?_
  go_wp2_with fail
  have hK0 : Blk (((w.alloc (.cells #[.slice A l.length c] 28)).alloc (.cells #[.int .i64 x] 3)).alloc (.cells #[.bool false] 4)) w.heap.size #[.slice A l.length c] 28 := ((Blk.new w _ _).alloc _).alloc _
  have hK1 : Blk (((w.alloc (.cells #[.slice A l.length c] 28)).alloc (.cells #[.int .i64 x] 3)).alloc (.cells #[.bool false] 4)) (w.heap.size + 1) #[.int .i64 x] 3 := by have := (Blk.new (w.alloc (.cells #[.slice A l.length c] 28)) #[.int .i64 x] 3).alloc (.cells #[.bool false] 4); simpa using this
  have hK2 : Blk (((w.alloc (.cells #[.slice A l.length c] 28)).alloc (.cells #[.int .i64 x] 3)).alloc (.cells #[.bool false] 4)) (w.heap.size + 1 + 1) #[.bool false] 4 := by have := Blk.new ((w.alloc (.cells #[.slice A l.length c] 28)).alloc (.cells #[.int .i64 x] 3)) #[.bool false] 4; simpa using this
  have hb0 : Below w.heap.size w (((w.alloc (.cells #[.slice A l.length c] 28)).alloc (.cells #[.int .i64 x] 3)).alloc (.cells #[.bool false] 4)) := (B2 _ _ _).alloc (by simp; omega) _
  generalize hW0 : ((w.alloc (.cells #[.slice A l.length c] 28)).alloc (.cells #[.int .i64 x] 3)).alloc (.cells #[.bool false] 4) = W0 at hK0 hK1 hK2 hb0 ⊢
  obtain ⟨d2, ed2⟩ : ∃ d2, d2 = w.heap.size + 1 + 1 := ⟨_, rfl⟩
  rw [← ed2] at hK2 ⊢
  obtain ⟨d1, ed1⟩ : ∃ d1, d1 = w.heap.size + 1 := ⟨_, rfl⟩
  rw [← ed1] at hK1 ⊢
  obtain ⟨d0, ed0⟩ : ∃ d0, d0 = w.heap.size := ⟨_, rfl⟩
  rw [← ed0] at hK0 ⊢
  have HD : RowKit.Hid (w.heap.size ≤ d0 ∧ w.heap.size ≤ d1 ∧ w.heap.size ≤ d2 ∧ d0 ≠ d1 ∧ d1 ≠ d2 ∧ d0 ≠ d2) := Lib.hid (by omega)
  have K0 := Lib.hid hK0
  have K1 := Lib.hid hK1
  have K2 := Lib.hid hK2
  have HB0 := Lib.hid hb0
  clear ed0 ed1 ed2 hK0 hK1 hK2 hb0 hW0
  go_wp2_with (go_at_call 8; refine (awake_any _).mono ?_; rintro e w1 ⟨rfl, hb1⟩; have L0 := Lib.hid (K0.out.below' hb1); have L1 := Lib.hid (K1.out.below' hb1); have L2 := Lib.hid (K2.out.below' hb1); have HB1 := Lib.hid (bt HB0.out hb1 HB0.out.size); have c0 := L0.out.one; clear hb1)
  obtain ⟨wa, rfl⟩ : ∃ u, u = w1 := ⟨_, rfl⟩
  go_cut [7, 8] from 25 to 31 (fun s7 s8 wx => ∃ ka kb k8 : Nat, s7 = .pointer (some ⟨ka, 0, none⟩) ∧ s8 = .pointer (some ⟨k8, 0, none⟩) ∧ Two wx wa.heap.size ka kb k8 l.length ∧ Below wa.heap.size wa wx)
  case first =>
    refine wp_mono (Q := calm _) ?_ (calm_le _)
    have hm := mixed
    refine wp_region_any hm ?_
    simp only [List.size_toArray, List.length_cons, List.length_nil, Nat.reduceAdd]
    obtain ⟨wd, ed⟩ : ∃ u : World, u = { wa with drawn := wa.drawn + 1 } := ⟨_, rfl⟩
    rw [← ed]
    have D0 : RowKit.Hid (Blk wd d0 #[.slice A l.length c] 28) := Lib.hid (by rw [ed]; exact L0.out)
    have DB : RowKit.Hid (Below wa.heap.size wa wd) := Lib.hid (by rw [ed]; exact ⟨rfl, rfl, rfl, Nat.le_refl _, fun _ _ => rfl⟩)
    clear ed c0
    refine wpAny_ready (rs := [0, 3, 7]) (by kernel_rfl) (by simp) ?_
    refine AllReady.cons rfl (fun K hK => ?_) ?_
    · have c0 := D0.out.one
      go_simp
      clear c0
      refine hK _ _ ?_
      clear hK K
      refine wpAny_take (i := 1) (v := ?_) rfl (by kernel_rfl) (by kernel_rfl) (by kernel_rfl) (fun _ _ _ h => h) (Or.inl ⟨by rfl, ?_⟩) ?_
      rotate_left
      · intro w; go_simp; try with_reducible rfl
      refine wpAny_ready (rs := [2, 3, 7]) (by kernel_rfl) (by simp) ?_
      refine AllReady.cons rfl (fun K hK => ?_) ?_
      · go_simp
        go_at_call 9
        refine (new_op _ (by omega) _).mono ?_
        rintro e v1 ⟨ka, rfl, h1, h2, h3⟩
        have v10 := Lib.hid (D0.out.below' h3)
        have v1a := Lib.hid h2
        have v1B := Lib.hid (DB.out.trans (h3.mono DB.out.size))
        have la : RowKit.Hid (wa.heap.size ≤ ka) := Lib.hid (by have := DB.out.size; omega)
        clear h1 h2 h3
        try go_simp
        refine hK _ _ ?_
        clear hK K
        refine wpAny_ready (rs := [3, 7]) (by kernel_rfl) (by simp) ?_
        refine AllReady.cons rfl (fun K hK => ?_) ?_
        · have c0 := v10.out.one
          go_simp
          clear c0
          refine hK _ _ ?_
          clear hK K
          refine wpAny_take (i := 4) (v := ?_) rfl (by kernel_rfl) (by kernel_rfl) (by kernel_rfl) (fun _ _ _ h => h) (Or.inl ⟨by rfl, ?_⟩) ?_
          rotate_left
          · intro w; go_simp; try with_reducible rfl
          refine wpAny_take (i := 5) (v := ?_) rfl (by kernel_rfl) (by kernel_rfl) (by kernel_rfl) (fun _ _ _ h => h) (Or.inl ⟨by rfl, ?_⟩) ?_
          rotate_left
          · intro w; go_simp; try with_reducible rfl
          refine wpAny_ready (rs := [6, 7]) (by kernel_rfl) (by simp) ?_
          refine AllReady.cons rfl (fun K hK => ?_) ?_
          · go_simp
            go_at_call 9
            refine (new_op _ (by omega) _).mono ?_
            rintro e v2 ⟨kb, rfl, h1, h2, h3⟩
            have v20 := Lib.hid (v10.out.below' h3)
            have v2a := Lib.hid (v1a.out.below' h3)
            have v2b := Lib.hid h2
            have v2B := Lib.hid (v1B.out.trans (h3.mono v1B.out.size))
            have lb : RowKit.Hid (wa.heap.size ≤ kb) := Lib.hid (by have := v1B.out.size; omega)
            clear h1 h2 h3
            try go_simp
            refine hK _ _ ?_
            clear hK K
            refine wpAny_ready (rs := [7]) (by kernel_rfl) (by simp) ?_
            refine AllReady.cons rfl (fun K hK => ?_) ?_
            · go_simp
              refine hK _ _ ?_
              clear hK K
              obtain ⟨v3, eN⟩ : ∃ u, u = v2.alloc (.cells #[.pointer none] 25) := ⟨_, rfl⟩
              obtain ⟨k8, e8⟩ : ∃ k, k = v2.heap.size := ⟨_, rfl⟩
              rw [← eN, ← e8]
              have v30 := Lib.hid (eN ▸ v20.out.alloc _ : Blk v3 _ _ _)
              have v3a := Lib.hid (eN ▸ v2a.out.alloc _ : Blk v3 _ _ _)
              have v3b := Lib.hid (eN ▸ v2b.out.alloc _ : Blk v3 _ _ _)
              have v38 : RowKit.Hid (Blk v3 k8 #[.pointer none] 25) := Lib.hid (by rw [eN, e8]; exact Blk.new _ _ _)
              have v3B : RowKit.Hid (Below wa.heap.size wa v3) := Lib.hid (by rw [eN]; exact v2B.out.alloc v2B.out.size _)
              have l8 : RowKit.Hid (wa.heap.size ≤ k8) := Lib.hid (by rw [e8]; exact v2B.out.size)
              clear eN e8
              refine wpAny_take (i := 8) (v := ?_) rfl (by kernel_rfl) (by kernel_rfl) (by kernel_rfl) (fun _ _ _ h => h) (Or.inl ⟨by rfl, ?_⟩) ?_
              rotate_left
              · intro w; go_simp; try with_reducible rfl
              refine wpAny_ready (rs := [9]) (by kernel_rfl) (by simp) ?_
              refine AllReady.cons rfl (fun K hK => ?_) ?_
              · have c8 := v38.out.one
                have f8 := v38.out.frozen 0
                go_simp
                refine hK _ _ ?_
                clear hK K
                refine wpAny_done (by kernel_rfl) ?_ _
                simp only [calm]
                go_wp2_with fail
                go_meet
                exact ⟨ka, kb, k8, rfl, rfl, two_store v3a.out v3b.out v38.out la.out lb.out l8.out, v3B.out.setCell (p := ⟨k8, 0, none⟩) l8.out _⟩
              exact AllReady.nil
            exact AllReady.nil
          refine AllReady.cons rfl (fun K hK => ?_) ?_
          · go_simp
            refine hK _ _ ?_
            clear hK K
            obtain ⟨v4, eN⟩ : ∃ u, u = v1.alloc (.cells #[.pointer none] 25) := ⟨_, rfl⟩
            obtain ⟨k8, e8⟩ : ∃ k, k = v1.heap.size := ⟨_, rfl⟩
            rw [← eN, ← e8]
            have v40 := Lib.hid (eN ▸ v10.out.alloc _ : Blk v4 _ _ _)
            have v4a := Lib.hid (eN ▸ v1a.out.alloc _ : Blk v4 _ _ _)
            have v48 : RowKit.Hid (Blk v4 k8 #[.pointer none] 25) := Lib.hid (by rw [eN, e8]; exact Blk.new _ _ _)
            have v4B : RowKit.Hid (Below wa.heap.size wa v4) := Lib.hid (by rw [eN]; exact v1B.out.alloc v1B.out.size _)
            have l8 : RowKit.Hid (wa.heap.size ≤ k8) := Lib.hid (by rw [e8]; exact v1B.out.size)
            clear eN e8
            refine wpAny_ready (rs := [6]) (by kernel_rfl) (by simp) ?_
            refine AllReady.cons rfl (fun K hK => ?_) ?_
            · go_simp
              go_at_call 9
              refine (new_op _ (by omega) _).mono ?_
              rintro e v5 ⟨kb, rfl, h1, h2, h3⟩
              have v50 := Lib.hid (v40.out.below' h3)
              have v5a := Lib.hid (v4a.out.below' h3)
              have v58 := Lib.hid (v48.out.below' h3)
              have v5b := Lib.hid h2
              have v5B := Lib.hid (v4B.out.trans (h3.mono v4B.out.size))
              have lb : RowKit.Hid (wa.heap.size ≤ kb) := Lib.hid (by have := v4B.out.size; omega)
              clear h1 h2 h3
              try go_simp
              refine hK _ _ ?_
              clear hK K
              refine wpAny_take (i := 8) (v := ?_) rfl (by kernel_rfl) (by kernel_rfl) (by kernel_rfl) (fun _ _ _ h => h) (Or.inl ⟨by rfl, ?_⟩) ?_
              rotate_left
              · intro w; go_simp; try with_reducible rfl
              refine wpAny_ready (rs := [9]) (by kernel_rfl) (by simp) ?_
              refine AllReady.cons rfl (fun K hK => ?_) ?_
              · have c8 := v58.out.one
                have f8 := v58.out.frozen 0
                go_simp
                refine hK _ _ ?_
                clear hK K
                refine wpAny_done (by kernel_rfl) ?_ _
                simp only [calm]
                go_wp2_with fail
                go_meet
                exact ⟨ka, kb, k8, rfl, rfl, two_store v5a.out v5b.out v58.out la.out lb.out l8.out, v5B.out.setCell (p := ⟨k8, 0, none⟩) l8.out _⟩
              exact AllReady.nil
            exact AllReady.nil
          exact AllReady.nil
        refine AllReady.cons rfl (fun K hK => ?_) ?_
        · go_simp
          refine hK _ _ ?_
          clear hK K
          obtain ⟨v6, eN⟩ : ∃ u, u = v1.alloc (.cells #[.pointer none] 25) := ⟨_, rfl⟩
          obtain ⟨k8, e8⟩ : ∃ k, k = v1.heap.size := ⟨_, rfl⟩
          rw [← eN, ← e8]
          have v60 := Lib.hid (eN ▸ v10.out.alloc _ : Blk v6 _ _ _)
          have v6a := Lib.hid (eN ▸ v1a.out.alloc _ : Blk v6 _ _ _)
          have v68 : RowKit.Hid (Blk v6 k8 #[.pointer none] 25) := Lib.hid (by rw [eN, e8]; exact Blk.new _ _ _)
          have v6B : RowKit.Hid (Below wa.heap.size wa v6) := Lib.hid (by rw [eN]; exact v1B.out.alloc v1B.out.size _)
          have l8 : RowKit.Hid (wa.heap.size ≤ k8) := Lib.hid (by rw [e8]; exact v1B.out.size)
          clear eN e8
          refine wpAny_ready (rs := [3]) (by kernel_rfl) (by simp) ?_
          refine AllReady.cons rfl (fun K hK => ?_) ?_
          · have c0 := v60.out.one
            go_simp
            clear c0
            refine hK _ _ ?_
            clear hK K
            refine wpAny_take (i := 4) (v := ?_) rfl (by kernel_rfl) (by kernel_rfl) (by kernel_rfl) (fun _ _ _ h => h) (Or.inl ⟨by rfl, ?_⟩) ?_
            rotate_left
            · intro w; go_simp; try with_reducible rfl
            refine wpAny_take (i := 5) (v := ?_) rfl (by kernel_rfl) (by kernel_rfl) (by kernel_rfl) (fun _ _ _ h => h) (Or.inl ⟨by rfl, ?_⟩) ?_
            rotate_left
            · intro w; go_simp; try with_reducible rfl
            refine wpAny_ready (rs := [6]) (by kernel_rfl) (by simp) ?_
            refine AllReady.cons rfl (fun K hK => ?_) ?_
            · go_simp
              go_at_call 9
              refine (new_op _ (by omega) _).mono ?_
              rintro e v7 ⟨kb, rfl, h1, h2, h3⟩
              have v70 := Lib.hid (v60.out.below' h3)
              have v7a := Lib.hid (v6a.out.below' h3)
              have v78 := Lib.hid (v68.out.below' h3)
              have v7b := Lib.hid h2
              have v7B := Lib.hid (v6B.out.trans (h3.mono v6B.out.size))
              have lb : RowKit.Hid (wa.heap.size ≤ kb) := Lib.hid (by have := v6B.out.size; omega)
              clear h1 h2 h3
              try go_simp
              refine hK _ _ ?_
              clear hK K
              refine wpAny_take (i := 8) (v := ?_) rfl (by kernel_rfl) (by kernel_rfl) (by kernel_rfl) (fun _ _ _ h => h) (Or.inl ⟨by rfl, ?_⟩) ?_
              rotate_left
              · intro w; go_simp; try with_reducible rfl
              refine wpAny_ready (rs := [9]) (by kernel_rfl) (by simp) ?_
              refine AllReady.cons rfl (fun K hK => ?_) ?_
              · have c8 := v78.out.one
                have f8 := v78.out.frozen 0
                go_simp
                refine hK _ _ ?_
                clear hK K
                refine wpAny_done (by kernel_rfl) ?_ _
                simp only [calm]
                go_wp2_with fail
                go_meet
                exact ⟨ka, kb, k8, rfl, rfl, two_store v7a.out v7b.out v78.out la.out lb.out l8.out, v7B.out.setCell (p := ⟨k8, 0, none⟩) l8.out _⟩
              exact AllReady.nil
            exact AllReady.nil
          exact AllReady.nil
        exact AllReady.nil
      refine AllReady.cons rfl (fun K hK => ?_) ?_
      · have c0 := D0.out.one
        go_simp
        clear c0
        refine hK _ _ ?_
        clear hK K
        refine wpAny_take (i := 4) (v := ?_) rfl (by kernel_rfl) (by kernel_rfl) (by kernel_rfl) (fun _ _ _ h => h) (Or.inl ⟨by rfl, ?_⟩) ?_
        rotate_left
        · intro w; go_simp; try with_reducible rfl
        refine wpAny_take (i := 5) (v := ?_) rfl (by kernel_rfl) (by kernel_rfl) (by kernel_rfl) (fun _ _ _ h => h) (Or.inl ⟨by rfl, ?_⟩) ?_
        rotate_left
        · intro w; go_simp; try with_reducible rfl
        refine wpAny_ready (rs := [2, 7]) (by kernel_rfl) (by simp) ?_
        refine AllReady.cons rfl (fun K hK => ?_) ?_
        · go_simp
          go_at_call 9
          refine (new_op _ (by omega) _).mono ?_
          rintro e v8 ⟨ka, rfl, h1, h2, h3⟩
          have v80 := Lib.hid (D0.out.below' h3)
          have v8a := Lib.hid h2
          have v8B := Lib.hid (DB.out.trans (h3.mono DB.out.size))
          have la : RowKit.Hid (wa.heap.size ≤ ka) := Lib.hid (by have := DB.out.size; omega)
          clear h1 h2 h3
          try go_simp
          refine hK _ _ ?_
          clear hK K
          refine wpAny_ready (rs := [6, 7]) (by kernel_rfl) (by simp) ?_
          refine AllReady.cons rfl (fun K hK => ?_) ?_
          · go_simp
            go_at_call 9
            refine (new_op _ (by omega) _).mono ?_
            rintro e v9 ⟨kb, rfl, h1, h2, h3⟩
            have v90 := Lib.hid (v80.out.below' h3)
            have v9a := Lib.hid (v8a.out.below' h3)
            have v9b := Lib.hid h2
            have v9B := Lib.hid (v8B.out.trans (h3.mono v8B.out.size))
            have lb : RowKit.Hid (wa.heap.size ≤ kb) := Lib.hid (by have := v8B.out.size; omega)
            clear h1 h2 h3
            try go_simp
            refine hK _ _ ?_
            clear hK K
            refine wpAny_ready (rs := [7]) (by kernel_rfl) (by simp) ?_
            refine AllReady.cons rfl (fun K hK => ?_) ?_
            · go_simp
              refine hK _ _ ?_
              clear hK K
              obtain ⟨v10, eN⟩ : ∃ u, u = v9.alloc (.cells #[.pointer none] 25) := ⟨_, rfl⟩
              obtain ⟨k8, e8⟩ : ∃ k, k = v9.heap.size := ⟨_, rfl⟩
              rw [← eN, ← e8]
              have v100 := Lib.hid (eN ▸ v90.out.alloc _ : Blk v10 _ _ _)
              have v10a := Lib.hid (eN ▸ v9a.out.alloc _ : Blk v10 _ _ _)
              have v10b := Lib.hid (eN ▸ v9b.out.alloc _ : Blk v10 _ _ _)
              have v108 : RowKit.Hid (Blk v10 k8 #[.pointer none] 25) := Lib.hid (by rw [eN, e8]; exact Blk.new _ _ _)
              have v10B : RowKit.Hid (Below wa.heap.size wa v10) := Lib.hid (by rw [eN]; exact v9B.out.alloc v9B.out.size _)
              have l8 : RowKit.Hid (wa.heap.size ≤ k8) := Lib.hid (by rw [e8]; exact v9B.out.size)
              clear eN e8
              refine wpAny_take (i := 8) (v := ?_) rfl (by kernel_rfl) (by kernel_rfl) (by kernel_rfl) (fun _ _ _ h => h) (Or.inl ⟨by rfl, ?_⟩) ?_
              rotate_left
              · intro w; go_simp; try with_reducible rfl
              refine wpAny_ready (rs := [9]) (by kernel_rfl) (by simp) ?_
              refine AllReady.cons rfl (fun K hK => ?_) ?_
              · have c8 := v108.out.one
                have f8 := v108.out.frozen 0
                go_simp
                refine hK _ _ ?_
                clear hK K
                refine wpAny_done (by kernel_rfl) ?_ _
                simp only [calm]
                go_wp2_with fail
                go_meet
                exact ⟨ka, kb, k8, rfl, rfl, two_store v10a.out v10b.out v108.out la.out lb.out l8.out, v10B.out.setCell (p := ⟨k8, 0, none⟩) l8.out _⟩
              exact AllReady.nil
            exact AllReady.nil
          refine AllReady.cons rfl (fun K hK => ?_) ?_
          · go_simp
            refine hK _ _ ?_
            clear hK K
            obtain ⟨v11, eN⟩ : ∃ u, u = v8.alloc (.cells #[.pointer none] 25) := ⟨_, rfl⟩
            obtain ⟨k8, e8⟩ : ∃ k, k = v8.heap.size := ⟨_, rfl⟩
            rw [← eN, ← e8]
            have v110 := Lib.hid (eN ▸ v80.out.alloc _ : Blk v11 _ _ _)
            have v11a := Lib.hid (eN ▸ v8a.out.alloc _ : Blk v11 _ _ _)
            have v118 : RowKit.Hid (Blk v11 k8 #[.pointer none] 25) := Lib.hid (by rw [eN, e8]; exact Blk.new _ _ _)
            have v11B : RowKit.Hid (Below wa.heap.size wa v11) := Lib.hid (by rw [eN]; exact v8B.out.alloc v8B.out.size _)
            have l8 : RowKit.Hid (wa.heap.size ≤ k8) := Lib.hid (by rw [e8]; exact v8B.out.size)
            clear eN e8
            refine wpAny_ready (rs := [6]) (by kernel_rfl) (by simp) ?_
            refine AllReady.cons rfl (fun K hK => ?_) ?_
            · go_simp
              go_at_call 9
              refine (new_op _ (by omega) _).mono ?_
              rintro e v12 ⟨kb, rfl, h1, h2, h3⟩
              have v120 := Lib.hid (v110.out.below' h3)
              have v12a := Lib.hid (v11a.out.below' h3)
              have v128 := Lib.hid (v118.out.below' h3)
              have v12b := Lib.hid h2
              have v12B := Lib.hid (v11B.out.trans (h3.mono v11B.out.size))
              have lb : RowKit.Hid (wa.heap.size ≤ kb) := Lib.hid (by have := v11B.out.size; omega)
              clear h1 h2 h3
              try go_simp
              refine hK _ _ ?_
              clear hK K
              refine wpAny_take (i := 8) (v := ?_) rfl (by kernel_rfl) (by kernel_rfl) (by kernel_rfl) (fun _ _ _ h => h) (Or.inl ⟨by rfl, ?_⟩) ?_
              rotate_left
              · intro w; go_simp; try with_reducible rfl
              refine wpAny_ready (rs := [9]) (by kernel_rfl) (by simp) ?_
              refine AllReady.cons rfl (fun K hK => ?_) ?_
              · have c8 := v128.out.one
                have f8 := v128.out.frozen 0
                go_simp
                refine hK _ _ ?_
                clear hK K
                refine wpAny_done (by kernel_rfl) ?_ _
                simp only [calm]
                go_wp2_with fail
                go_meet
                exact ⟨ka, kb, k8, rfl, rfl, two_store v12a.out v12b.out v128.out la.out lb.out l8.out, v12B.out.setCell (p := ⟨k8, 0, none⟩) l8.out _⟩
              exact AllReady.nil
            exact AllReady.nil
          exact AllReady.nil
        refine AllReady.cons rfl (fun K hK => ?_) ?_
        · go_simp
          refine hK _ _ ?_
          clear hK K
          obtain ⟨v13, eN⟩ : ∃ u, u = wd.alloc (.cells #[.pointer none] 25) := ⟨_, rfl⟩
          obtain ⟨k8, e8⟩ : ∃ k, k = wd.heap.size := ⟨_, rfl⟩
          rw [← eN, ← e8]
          have v130 := Lib.hid (eN ▸ D0.out.alloc _ : Blk v13 _ _ _)
          have v138 : RowKit.Hid (Blk v13 k8 #[.pointer none] 25) := Lib.hid (by rw [eN, e8]; exact Blk.new _ _ _)
          have v13B : RowKit.Hid (Below wa.heap.size wa v13) := Lib.hid (by rw [eN]; exact DB.out.alloc DB.out.size _)
          have l8 : RowKit.Hid (wa.heap.size ≤ k8) := Lib.hid (by rw [e8]; exact DB.out.size)
          clear eN e8
          refine wpAny_ready (rs := [2]) (by kernel_rfl) (by simp) ?_
          refine AllReady.cons rfl (fun K hK => ?_) ?_
          · go_simp
            go_at_call 9
            refine (new_op _ (by omega) _).mono ?_
            rintro e v14 ⟨ka, rfl, h1, h2, h3⟩
            have v140 := Lib.hid (v130.out.below' h3)
            have v148 := Lib.hid (v138.out.below' h3)
            have v14a := Lib.hid h2
            have v14B := Lib.hid (v13B.out.trans (h3.mono v13B.out.size))
            have la : RowKit.Hid (wa.heap.size ≤ ka) := Lib.hid (by have := v13B.out.size; omega)
            clear h1 h2 h3
            try go_simp
            refine hK _ _ ?_
            clear hK K
            refine wpAny_ready (rs := [6]) (by kernel_rfl) (by simp) ?_
            refine AllReady.cons rfl (fun K hK => ?_) ?_
            · go_simp
              go_at_call 9
              refine (new_op _ (by omega) _).mono ?_
              rintro e v15 ⟨kb, rfl, h1, h2, h3⟩
              have v150 := Lib.hid (v140.out.below' h3)
              have v15a := Lib.hid (v14a.out.below' h3)
              have v158 := Lib.hid (v148.out.below' h3)
              have v15b := Lib.hid h2
              have v15B := Lib.hid (v14B.out.trans (h3.mono v14B.out.size))
              have lb : RowKit.Hid (wa.heap.size ≤ kb) := Lib.hid (by have := v14B.out.size; omega)
              clear h1 h2 h3
              try go_simp
              refine hK _ _ ?_
              clear hK K
              refine wpAny_take (i := 8) (v := ?_) rfl (by kernel_rfl) (by kernel_rfl) (by kernel_rfl) (fun _ _ _ h => h) (Or.inl ⟨by rfl, ?_⟩) ?_
              rotate_left
              · intro w; go_simp; try with_reducible rfl
              refine wpAny_ready (rs := [9]) (by kernel_rfl) (by simp) ?_
              refine AllReady.cons rfl (fun K hK => ?_) ?_
              · have c8 := v158.out.one
                have f8 := v158.out.frozen 0
                go_simp
                refine hK _ _ ?_
                clear hK K
                refine wpAny_done (by kernel_rfl) ?_ _
                simp only [calm]
                go_wp2_with fail
                go_meet
                exact ⟨ka, kb, k8, rfl, rfl, two_store v15a.out v15b.out v158.out la.out lb.out l8.out, v15B.out.setCell (p := ⟨k8, 0, none⟩) l8.out _⟩
              exact AllReady.nil
            exact AllReady.nil
          exact AllReady.nil
        exact AllReady.nil
      refine AllReady.cons rfl (fun K hK => ?_) ?_
      · go_simp
        refine hK _ _ ?_
        clear hK K
        obtain ⟨v16, eN⟩ : ∃ u, u = wd.alloc (.cells #[.pointer none] 25) := ⟨_, rfl⟩
        obtain ⟨k8, e8⟩ : ∃ k, k = wd.heap.size := ⟨_, rfl⟩
        rw [← eN, ← e8]
        have v160 := Lib.hid (eN ▸ D0.out.alloc _ : Blk v16 _ _ _)
        have v168 : RowKit.Hid (Blk v16 k8 #[.pointer none] 25) := Lib.hid (by rw [eN, e8]; exact Blk.new _ _ _)
        have v16B : RowKit.Hid (Below wa.heap.size wa v16) := Lib.hid (by rw [eN]; exact DB.out.alloc DB.out.size _)
        have l8 : RowKit.Hid (wa.heap.size ≤ k8) := Lib.hid (by rw [e8]; exact DB.out.size)
        clear eN e8
        refine wpAny_ready (rs := [2, 3]) (by kernel_rfl) (by simp) ?_
        refine AllReady.cons rfl (fun K hK => ?_) ?_
        · go_simp
          go_at_call 9
          refine (new_op _ (by omega) _).mono ?_
          rintro e v17 ⟨ka, rfl, h1, h2, h3⟩
          have v170 := Lib.hid (v160.out.below' h3)
          have v178 := Lib.hid (v168.out.below' h3)
          have v17a := Lib.hid h2
          have v17B := Lib.hid (v16B.out.trans (h3.mono v16B.out.size))
          have la : RowKit.Hid (wa.heap.size ≤ ka) := Lib.hid (by have := v16B.out.size; omega)
          clear h1 h2 h3
          try go_simp
          refine hK _ _ ?_
          clear hK K
          refine wpAny_ready (rs := [3]) (by kernel_rfl) (by simp) ?_
          refine AllReady.cons rfl (fun K hK => ?_) ?_
          · have c0 := v170.out.one
            go_simp
            clear c0
            refine hK _ _ ?_
            clear hK K
            refine wpAny_take (i := 4) (v := ?_) rfl (by kernel_rfl) (by kernel_rfl) (by kernel_rfl) (fun _ _ _ h => h) (Or.inl ⟨by rfl, ?_⟩) ?_
            rotate_left
            · intro w; go_simp; try with_reducible rfl
            refine wpAny_take (i := 5) (v := ?_) rfl (by kernel_rfl) (by kernel_rfl) (by kernel_rfl) (fun _ _ _ h => h) (Or.inl ⟨by rfl, ?_⟩) ?_
            rotate_left
            · intro w; go_simp; try with_reducible rfl
            refine wpAny_ready (rs := [6]) (by kernel_rfl) (by simp) ?_
            refine AllReady.cons rfl (fun K hK => ?_) ?_
            · go_simp
              go_at_call 9
              refine (new_op _ (by omega) _).mono ?_
              rintro e v18 ⟨kb, rfl, h1, h2, h3⟩
              have v180 := Lib.hid (v170.out.below' h3)
              have v18a := Lib.hid (v17a.out.below' h3)
              have v188 := Lib.hid (v178.out.below' h3)
              have v18b := Lib.hid h2
              have v18B := Lib.hid (v17B.out.trans (h3.mono v17B.out.size))
              have lb : RowKit.Hid (wa.heap.size ≤ kb) := Lib.hid (by have := v17B.out.size; omega)
              clear h1 h2 h3
              try go_simp
              refine hK _ _ ?_
              clear hK K
              refine wpAny_take (i := 8) (v := ?_) rfl (by kernel_rfl) (by kernel_rfl) (by kernel_rfl) (fun _ _ _ h => h) (Or.inl ⟨by rfl, ?_⟩) ?_
              rotate_left
              · intro w; go_simp; try with_reducible rfl
              refine wpAny_ready (rs := [9]) (by kernel_rfl) (by simp) ?_
              refine AllReady.cons rfl (fun K hK => ?_) ?_
              · have c8 := v188.out.one
                have f8 := v188.out.frozen 0
                go_simp
                refine hK _ _ ?_
                clear hK K
                refine wpAny_done (by kernel_rfl) ?_ _
                simp only [calm]
                go_wp2_with fail
                go_meet
                exact ⟨ka, kb, k8, rfl, rfl, two_store v18a.out v18b.out v188.out la.out lb.out l8.out, v18B.out.setCell (p := ⟨k8, 0, none⟩) l8.out _⟩
              exact AllReady.nil
            exact AllReady.nil
          exact AllReady.nil
        refine AllReady.cons rfl (fun K hK => ?_) ?_
        · have c0 := v160.out.one
          go_simp
          clear c0
          refine hK _ _ ?_
          clear hK K
          refine wpAny_take (i := 4) (v := ?_) rfl (by kernel_rfl) (by kernel_rfl) (by kernel_rfl) (fun _ _ _ h => h) (Or.inl ⟨by rfl, ?_⟩) ?_
          rotate_left
          · intro w; go_simp; try with_reducible rfl
          refine wpAny_take (i := 5) (v := ?_) rfl (by kernel_rfl) (by kernel_rfl) (by kernel_rfl) (fun _ _ _ h => h) (Or.inl ⟨by rfl, ?_⟩) ?_
          rotate_left
          · intro w; go_simp; try with_reducible rfl
          refine wpAny_ready (rs := [2]) (by kernel_rfl) (by simp) ?_
          refine AllReady.cons rfl (fun K hK => ?_) ?_
          · go_simp
            go_at_call 9
            refine (new_op _ (by omega) _).mono ?_
            rintro e v19 ⟨ka, rfl, h1, h2, h3⟩
            have v190 := Lib.hid (v160.out.below' h3)
            have v198 := Lib.hid (v168.out.below' h3)
            have v19a := Lib.hid h2
            have v19B := Lib.hid (v16B.out.trans (h3.mono v16B.out.size))
            have la : RowKit.Hid (wa.heap.size ≤ ka) := Lib.hid (by have := v16B.out.size; omega)
            clear h1 h2 h3
            try go_simp
            refine hK _ _ ?_
            clear hK K
            refine wpAny_ready (rs := [6]) (by kernel_rfl) (by simp) ?_
            refine AllReady.cons rfl (fun K hK => ?_) ?_
            · go_simp
              go_at_call 9
              refine (new_op _ (by omega) _).mono ?_
              rintro e v20 ⟨kb, rfl, h1, h2, h3⟩
              have v200 := Lib.hid (v190.out.below' h3)
              have v20a := Lib.hid (v19a.out.below' h3)
              have v208 := Lib.hid (v198.out.below' h3)
              have v20b := Lib.hid h2
              have v20B := Lib.hid (v19B.out.trans (h3.mono v19B.out.size))
              have lb : RowKit.Hid (wa.heap.size ≤ kb) := Lib.hid (by have := v19B.out.size; omega)
              clear h1 h2 h3
              try go_simp
              refine hK _ _ ?_
              clear hK K
              refine wpAny_take (i := 8) (v := ?_) rfl (by kernel_rfl) (by kernel_rfl) (by kernel_rfl) (fun _ _ _ h => h) (Or.inl ⟨by rfl, ?_⟩) ?_
              rotate_left
              · intro w; go_simp; try with_reducible rfl
              refine wpAny_ready (rs := [9]) (by kernel_rfl) (by simp) ?_
              refine AllReady.cons rfl (fun K hK => ?_) ?_
              · have c8 := v208.out.one
                have f8 := v208.out.frozen 0
                go_simp
                refine hK _ _ ?_
                clear hK K
                refine wpAny_done (by kernel_rfl) ?_ _
                simp only [calm]
                go_wp2_with fail
                go_meet
                exact ⟨ka, kb, k8, rfl, rfl, two_store v20a.out v20b.out v208.out la.out lb.out l8.out, v20B.out.setCell (p := ⟨k8, 0, none⟩) l8.out _⟩
              exact AllReady.nil
            exact AllReady.nil
          exact AllReady.nil
        exact AllReady.nil
      exact AllReady.nil
    refine AllReady.cons rfl (fun K hK => ?_) ?_
    · have c0 := D0.out.one
      go_simp
      clear c0
      refine hK _ _ ?_
      clear hK K
      refine wpAny_take (i := 4) (v := ?_) rfl (by kernel_rfl) (by kernel_rfl) (by kernel_rfl) (fun _ _ _ h => h) (Or.inl ⟨by rfl, ?_⟩) ?_
      rotate_left
      · intro w; go_simp; try with_reducible rfl
      refine wpAny_take (i := 5) (v := ?_) rfl (by kernel_rfl) (by kernel_rfl) (by kernel_rfl) (fun _ _ _ h => h) (Or.inl ⟨by rfl, ?_⟩) ?_
      rotate_left
      · intro w; go_simp; try with_reducible rfl
      refine wpAny_ready (rs := [0, 7]) (by kernel_rfl) (by simp) ?_
      refine AllReady.cons rfl (fun K hK => ?_) ?_
      · have c0 := D0.out.one
        go_simp
        clear c0
        refine hK _ _ ?_
        clear hK K
        refine wpAny_take (i := 1) (v := ?_) rfl (by kernel_rfl) (by kernel_rfl) (by kernel_rfl) (fun _ _ _ h => h) (Or.inl ⟨by rfl, ?_⟩) ?_
        rotate_left
        · intro w; go_simp; try with_reducible rfl
        refine wpAny_ready (rs := [2, 7]) (by kernel_rfl) (by simp) ?_
        refine AllReady.cons rfl (fun K hK => ?_) ?_
        · go_simp
          go_at_call 9
          refine (new_op _ (by omega) _).mono ?_
          rintro e v21 ⟨ka, rfl, h1, h2, h3⟩
          have v210 := Lib.hid (D0.out.below' h3)
          have v21a := Lib.hid h2
          have v21B := Lib.hid (DB.out.trans (h3.mono DB.out.size))
          have la : RowKit.Hid (wa.heap.size ≤ ka) := Lib.hid (by have := DB.out.size; omega)
          clear h1 h2 h3
          try go_simp
          refine hK _ _ ?_
          clear hK K
          refine wpAny_ready (rs := [6, 7]) (by kernel_rfl) (by simp) ?_
          refine AllReady.cons rfl (fun K hK => ?_) ?_
          · go_simp
            go_at_call 9
            refine (new_op _ (by omega) _).mono ?_
            rintro e v22 ⟨kb, rfl, h1, h2, h3⟩
            have v220 := Lib.hid (v210.out.below' h3)
            have v22a := Lib.hid (v21a.out.below' h3)
            have v22b := Lib.hid h2
            have v22B := Lib.hid (v21B.out.trans (h3.mono v21B.out.size))
            have lb : RowKit.Hid (wa.heap.size ≤ kb) := Lib.hid (by have := v21B.out.size; omega)
            clear h1 h2 h3
            try go_simp
            refine hK _ _ ?_
            clear hK K
            refine wpAny_ready (rs := [7]) (by kernel_rfl) (by simp) ?_
            refine AllReady.cons rfl (fun K hK => ?_) ?_
            · go_simp
              refine hK _ _ ?_
              clear hK K
              obtain ⟨v23, eN⟩ : ∃ u, u = v22.alloc (.cells #[.pointer none] 25) := ⟨_, rfl⟩
              obtain ⟨k8, e8⟩ : ∃ k, k = v22.heap.size := ⟨_, rfl⟩
              rw [← eN, ← e8]
              have v230 := Lib.hid (eN ▸ v220.out.alloc _ : Blk v23 _ _ _)
              have v23a := Lib.hid (eN ▸ v22a.out.alloc _ : Blk v23 _ _ _)
              have v23b := Lib.hid (eN ▸ v22b.out.alloc _ : Blk v23 _ _ _)
              have v238 : RowKit.Hid (Blk v23 k8 #[.pointer none] 25) := Lib.hid (by rw [eN, e8]; exact Blk.new _ _ _)
              have v23B : RowKit.Hid (Below wa.heap.size wa v23) := Lib.hid (by rw [eN]; exact v22B.out.alloc v22B.out.size _)
              have l8 : RowKit.Hid (wa.heap.size ≤ k8) := Lib.hid (by rw [e8]; exact v22B.out.size)
              clear eN e8
              refine wpAny_take (i := 8) (v := ?_) rfl (by kernel_rfl) (by kernel_rfl) (by kernel_rfl) (fun _ _ _ h => h) (Or.inl ⟨by rfl, ?_⟩) ?_
              rotate_left
              · intro w; go_simp; try with_reducible rfl
              refine wpAny_ready (rs := [9]) (by kernel_rfl) (by simp) ?_
              refine AllReady.cons rfl (fun K hK => ?_) ?_
              · have c8 := v238.out.one
                have f8 := v238.out.frozen 0
                go_simp
                refine hK _ _ ?_
                clear hK K
                refine wpAny_done (by kernel_rfl) ?_ _
                simp only [calm]
                go_wp2_with fail
                go_meet
                exact ⟨ka, kb, k8, rfl, rfl, two_store v23a.out v23b.out v238.out la.out lb.out l8.out, v23B.out.setCell (p := ⟨k8, 0, none⟩) l8.out _⟩
              exact AllReady.nil
            exact AllReady.nil
          refine AllReady.cons rfl (fun K hK => ?_) ?_
          · go_simp
            refine hK _ _ ?_
            clear hK K
            obtain ⟨v24, eN⟩ : ∃ u, u = v21.alloc (.cells #[.pointer none] 25) := ⟨_, rfl⟩
            obtain ⟨k8, e8⟩ : ∃ k, k = v21.heap.size := ⟨_, rfl⟩
            rw [← eN, ← e8]
            have v240 := Lib.hid (eN ▸ v210.out.alloc _ : Blk v24 _ _ _)
            have v24a := Lib.hid (eN ▸ v21a.out.alloc _ : Blk v24 _ _ _)
            have v248 : RowKit.Hid (Blk v24 k8 #[.pointer none] 25) := Lib.hid (by rw [eN, e8]; exact Blk.new _ _ _)
            have v24B : RowKit.Hid (Below wa.heap.size wa v24) := Lib.hid (by rw [eN]; exact v21B.out.alloc v21B.out.size _)
            have l8 : RowKit.Hid (wa.heap.size ≤ k8) := Lib.hid (by rw [e8]; exact v21B.out.size)
            clear eN e8
            refine wpAny_ready (rs := [6]) (by kernel_rfl) (by simp) ?_
            refine AllReady.cons rfl (fun K hK => ?_) ?_
            · go_simp
              go_at_call 9
              refine (new_op _ (by omega) _).mono ?_
              rintro e v25 ⟨kb, rfl, h1, h2, h3⟩
              have v250 := Lib.hid (v240.out.below' h3)
              have v25a := Lib.hid (v24a.out.below' h3)
              have v258 := Lib.hid (v248.out.below' h3)
              have v25b := Lib.hid h2
              have v25B := Lib.hid (v24B.out.trans (h3.mono v24B.out.size))
              have lb : RowKit.Hid (wa.heap.size ≤ kb) := Lib.hid (by have := v24B.out.size; omega)
              clear h1 h2 h3
              try go_simp
              refine hK _ _ ?_
              clear hK K
              refine wpAny_take (i := 8) (v := ?_) rfl (by kernel_rfl) (by kernel_rfl) (by kernel_rfl) (fun _ _ _ h => h) (Or.inl ⟨by rfl, ?_⟩) ?_
              rotate_left
              · intro w; go_simp; try with_reducible rfl
              refine wpAny_ready (rs := [9]) (by kernel_rfl) (by simp) ?_
              refine AllReady.cons rfl (fun K hK => ?_) ?_
              · have c8 := v258.out.one
                have f8 := v258.out.frozen 0
                go_simp
                refine hK _ _ ?_
                clear hK K
                refine wpAny_done (by kernel_rfl) ?_ _
                simp only [calm]
                go_wp2_with fail
                go_meet
                exact ⟨ka, kb, k8, rfl, rfl, two_store v25a.out v25b.out v258.out la.out lb.out l8.out, v25B.out.setCell (p := ⟨k8, 0, none⟩) l8.out _⟩
              exact AllReady.nil
            exact AllReady.nil
          exact AllReady.nil
        refine AllReady.cons rfl (fun K hK => ?_) ?_
        · go_simp
          refine hK _ _ ?_
          clear hK K
          obtain ⟨v26, eN⟩ : ∃ u, u = wd.alloc (.cells #[.pointer none] 25) := ⟨_, rfl⟩
          obtain ⟨k8, e8⟩ : ∃ k, k = wd.heap.size := ⟨_, rfl⟩
          rw [← eN, ← e8]
          have v260 := Lib.hid (eN ▸ D0.out.alloc _ : Blk v26 _ _ _)
          have v268 : RowKit.Hid (Blk v26 k8 #[.pointer none] 25) := Lib.hid (by rw [eN, e8]; exact Blk.new _ _ _)
          have v26B : RowKit.Hid (Below wa.heap.size wa v26) := Lib.hid (by rw [eN]; exact DB.out.alloc DB.out.size _)
          have l8 : RowKit.Hid (wa.heap.size ≤ k8) := Lib.hid (by rw [e8]; exact DB.out.size)
          clear eN e8
          refine wpAny_ready (rs := [2]) (by kernel_rfl) (by simp) ?_
          refine AllReady.cons rfl (fun K hK => ?_) ?_
          · go_simp
            go_at_call 9
            refine (new_op _ (by omega) _).mono ?_
            rintro e v27 ⟨ka, rfl, h1, h2, h3⟩
            have v270 := Lib.hid (v260.out.below' h3)
            have v278 := Lib.hid (v268.out.below' h3)
            have v27a := Lib.hid h2
            have v27B := Lib.hid (v26B.out.trans (h3.mono v26B.out.size))
            have la : RowKit.Hid (wa.heap.size ≤ ka) := Lib.hid (by have := v26B.out.size; omega)
            clear h1 h2 h3
            try go_simp
            refine hK _ _ ?_
            clear hK K
            refine wpAny_ready (rs := [6]) (by kernel_rfl) (by simp) ?_
            refine AllReady.cons rfl (fun K hK => ?_) ?_
            · go_simp
              go_at_call 9
              refine (new_op _ (by omega) _).mono ?_
              rintro e v28 ⟨kb, rfl, h1, h2, h3⟩
              have v280 := Lib.hid (v270.out.below' h3)
              have v28a := Lib.hid (v27a.out.below' h3)
              have v288 := Lib.hid (v278.out.below' h3)
              have v28b := Lib.hid h2
              have v28B := Lib.hid (v27B.out.trans (h3.mono v27B.out.size))
              have lb : RowKit.Hid (wa.heap.size ≤ kb) := Lib.hid (by have := v27B.out.size; omega)
              clear h1 h2 h3
              try go_simp
              refine hK _ _ ?_
              clear hK K
              refine wpAny_take (i := 8) (v := ?_) rfl (by kernel_rfl) (by kernel_rfl) (by kernel_rfl) (fun _ _ _ h => h) (Or.inl ⟨by rfl, ?_⟩) ?_
              rotate_left
              · intro w; go_simp; try with_reducible rfl
              refine wpAny_ready (rs := [9]) (by kernel_rfl) (by simp) ?_
              refine AllReady.cons rfl (fun K hK => ?_) ?_
              · have c8 := v288.out.one
                have f8 := v288.out.frozen 0
                go_simp
                refine hK _ _ ?_
                clear hK K
                refine wpAny_done (by kernel_rfl) ?_ _
                simp only [calm]
                go_wp2_with fail
                go_meet
                exact ⟨ka, kb, k8, rfl, rfl, two_store v28a.out v28b.out v288.out la.out lb.out l8.out, v28B.out.setCell (p := ⟨k8, 0, none⟩) l8.out _⟩
              exact AllReady.nil
            exact AllReady.nil
          exact AllReady.nil
        exact AllReady.nil
      refine AllReady.cons rfl (fun K hK => ?_) ?_
      · go_simp
        refine hK _ _ ?_
        clear hK K
        obtain ⟨v29, eN⟩ : ∃ u, u = wd.alloc (.cells #[.pointer none] 25) := ⟨_, rfl⟩
        obtain ⟨k8, e8⟩ : ∃ k, k = wd.heap.size := ⟨_, rfl⟩
        rw [← eN, ← e8]
        have v290 := Lib.hid (eN ▸ D0.out.alloc _ : Blk v29 _ _ _)
        have v298 : RowKit.Hid (Blk v29 k8 #[.pointer none] 25) := Lib.hid (by rw [eN, e8]; exact Blk.new _ _ _)
        have v29B : RowKit.Hid (Below wa.heap.size wa v29) := Lib.hid (by rw [eN]; exact DB.out.alloc DB.out.size _)
        have l8 : RowKit.Hid (wa.heap.size ≤ k8) := Lib.hid (by rw [e8]; exact DB.out.size)
        clear eN e8
        refine wpAny_ready (rs := [0]) (by kernel_rfl) (by simp) ?_
        refine AllReady.cons rfl (fun K hK => ?_) ?_
        · have c0 := v290.out.one
          go_simp
          clear c0
          refine hK _ _ ?_
          clear hK K
          refine wpAny_take (i := 1) (v := ?_) rfl (by kernel_rfl) (by kernel_rfl) (by kernel_rfl) (fun _ _ _ h => h) (Or.inl ⟨by rfl, ?_⟩) ?_
          rotate_left
          · intro w; go_simp; try with_reducible rfl
          refine wpAny_ready (rs := [2]) (by kernel_rfl) (by simp) ?_
          refine AllReady.cons rfl (fun K hK => ?_) ?_
          · go_simp
            go_at_call 9
            refine (new_op _ (by omega) _).mono ?_
            rintro e v30 ⟨ka, rfl, h1, h2, h3⟩
            have v300 := Lib.hid (v290.out.below' h3)
            have v308 := Lib.hid (v298.out.below' h3)
            have v30a := Lib.hid h2
            have v30B := Lib.hid (v29B.out.trans (h3.mono v29B.out.size))
            have la : RowKit.Hid (wa.heap.size ≤ ka) := Lib.hid (by have := v29B.out.size; omega)
            clear h1 h2 h3
            try go_simp
            refine hK _ _ ?_
            clear hK K
            refine wpAny_ready (rs := [6]) (by kernel_rfl) (by simp) ?_
            refine AllReady.cons rfl (fun K hK => ?_) ?_
            · go_simp
              go_at_call 9
              refine (new_op _ (by omega) _).mono ?_
              rintro e v31 ⟨kb, rfl, h1, h2, h3⟩
              have v310 := Lib.hid (v300.out.below' h3)
              have v31a := Lib.hid (v30a.out.below' h3)
              have v318 := Lib.hid (v308.out.below' h3)
              have v31b := Lib.hid h2
              have v31B := Lib.hid (v30B.out.trans (h3.mono v30B.out.size))
              have lb : RowKit.Hid (wa.heap.size ≤ kb) := Lib.hid (by have := v30B.out.size; omega)
              clear h1 h2 h3
              try go_simp
              refine hK _ _ ?_
              clear hK K
              refine wpAny_take (i := 8) (v := ?_) rfl (by kernel_rfl) (by kernel_rfl) (by kernel_rfl) (fun _ _ _ h => h) (Or.inl ⟨by rfl, ?_⟩) ?_
              rotate_left
              · intro w; go_simp; try with_reducible rfl
              refine wpAny_ready (rs := [9]) (by kernel_rfl) (by simp) ?_
              refine AllReady.cons rfl (fun K hK => ?_) ?_
              · have c8 := v318.out.one
                have f8 := v318.out.frozen 0
                go_simp
                refine hK _ _ ?_
                clear hK K
                refine wpAny_done (by kernel_rfl) ?_ _
                simp only [calm]
                go_wp2_with fail
                go_meet
                exact ⟨ka, kb, k8, rfl, rfl, two_store v31a.out v31b.out v318.out la.out lb.out l8.out, v31B.out.setCell (p := ⟨k8, 0, none⟩) l8.out _⟩
              exact AllReady.nil
            exact AllReady.nil
          exact AllReady.nil
        exact AllReady.nil
      exact AllReady.nil
    refine AllReady.cons rfl (fun K hK => ?_) ?_
    · go_simp
      refine hK _ _ ?_
      clear hK K
      obtain ⟨v32, eN⟩ : ∃ u, u = wd.alloc (.cells #[.pointer none] 25) := ⟨_, rfl⟩
      obtain ⟨k8, e8⟩ : ∃ k, k = wd.heap.size := ⟨_, rfl⟩
      rw [← eN, ← e8]
      have v320 := Lib.hid (eN ▸ D0.out.alloc _ : Blk v32 _ _ _)
      have v328 : RowKit.Hid (Blk v32 k8 #[.pointer none] 25) := Lib.hid (by rw [eN, e8]; exact Blk.new _ _ _)
      have v32B : RowKit.Hid (Below wa.heap.size wa v32) := Lib.hid (by rw [eN]; exact DB.out.alloc DB.out.size _)
      have l8 : RowKit.Hid (wa.heap.size ≤ k8) := Lib.hid (by rw [e8]; exact DB.out.size)
      clear eN e8
      refine wpAny_ready (rs := [0, 3]) (by kernel_rfl) (by simp) ?_
      refine AllReady.cons rfl (fun K hK => ?_) ?_
      · have c0 := v320.out.one
        go_simp
        clear c0
        refine hK _ _ ?_
        clear hK K
        refine wpAny_take (i := 1) (v := ?_) rfl (by kernel_rfl) (by kernel_rfl) (by kernel_rfl) (fun _ _ _ h => h) (Or.inl ⟨by rfl, ?_⟩) ?_
        rotate_left
        · intro w; go_simp; try with_reducible rfl
        refine wpAny_ready (rs := [2, 3]) (by kernel_rfl) (by simp) ?_
        refine AllReady.cons rfl (fun K hK => ?_) ?_
        · go_simp
          go_at_call 9
          refine (new_op _ (by omega) _).mono ?_
          rintro e v33 ⟨ka, rfl, h1, h2, h3⟩
          have v330 := Lib.hid (v320.out.below' h3)
          have v338 := Lib.hid (v328.out.below' h3)
          have v33a := Lib.hid h2
          have v33B := Lib.hid (v32B.out.trans (h3.mono v32B.out.size))
          have la : RowKit.Hid (wa.heap.size ≤ ka) := Lib.hid (by have := v32B.out.size; omega)
          clear h1 h2 h3
          try go_simp
          refine hK _ _ ?_
          clear hK K
          refine wpAny_ready (rs := [3]) (by kernel_rfl) (by simp) ?_
          refine AllReady.cons rfl (fun K hK => ?_) ?_
          · have c0 := v330.out.one
            go_simp
            clear c0
            refine hK _ _ ?_
            clear hK K
            refine wpAny_take (i := 4) (v := ?_) rfl (by kernel_rfl) (by kernel_rfl) (by kernel_rfl) (fun _ _ _ h => h) (Or.inl ⟨by rfl, ?_⟩) ?_
            rotate_left
            · intro w; go_simp; try with_reducible rfl
            refine wpAny_take (i := 5) (v := ?_) rfl (by kernel_rfl) (by kernel_rfl) (by kernel_rfl) (fun _ _ _ h => h) (Or.inl ⟨by rfl, ?_⟩) ?_
            rotate_left
            · intro w; go_simp; try with_reducible rfl
            refine wpAny_ready (rs := [6]) (by kernel_rfl) (by simp) ?_
            refine AllReady.cons rfl (fun K hK => ?_) ?_
            · go_simp
              go_at_call 9
              refine (new_op _ (by omega) _).mono ?_
              rintro e v34 ⟨kb, rfl, h1, h2, h3⟩
              have v340 := Lib.hid (v330.out.below' h3)
              have v34a := Lib.hid (v33a.out.below' h3)
              have v348 := Lib.hid (v338.out.below' h3)
              have v34b := Lib.hid h2
              have v34B := Lib.hid (v33B.out.trans (h3.mono v33B.out.size))
              have lb : RowKit.Hid (wa.heap.size ≤ kb) := Lib.hid (by have := v33B.out.size; omega)
              clear h1 h2 h3
              try go_simp
              refine hK _ _ ?_
              clear hK K
              refine wpAny_take (i := 8) (v := ?_) rfl (by kernel_rfl) (by kernel_rfl) (by kernel_rfl) (fun _ _ _ h => h) (Or.inl ⟨by rfl, ?_⟩) ?_
              rotate_left
              · intro w; go_simp; try with_reducible rfl
              refine wpAny_ready (rs := [9]) (by kernel_rfl) (by simp) ?_
              refine AllReady.cons rfl (fun K hK => ?_) ?_
              · have c8 := v348.out.one
                have f8 := v348.out.frozen 0
                go_simp
                refine hK _ _ ?_
                clear hK K
                refine wpAny_done (by kernel_rfl) ?_ _
                simp only [calm]
                go_wp2_with fail
                go_meet
                exact ⟨ka, kb, k8, rfl, rfl, two_store v34a.out v34b.out v348.out la.out lb.out l8.out, v34B.out.setCell (p := ⟨k8, 0, none⟩) l8.out _⟩
              exact AllReady.nil
            exact AllReady.nil
          exact AllReady.nil
        refine AllReady.cons rfl (fun K hK => ?_) ?_
        · have c0 := v320.out.one
          go_simp
          clear c0
          refine hK _ _ ?_
          clear hK K
          refine wpAny_take (i := 4) (v := ?_) rfl (by kernel_rfl) (by kernel_rfl) (by kernel_rfl) (fun _ _ _ h => h) (Or.inl ⟨by rfl, ?_⟩) ?_
          rotate_left
          · intro w; go_simp; try with_reducible rfl
          refine wpAny_take (i := 5) (v := ?_) rfl (by kernel_rfl) (by kernel_rfl) (by kernel_rfl) (fun _ _ _ h => h) (Or.inl ⟨by rfl, ?_⟩) ?_
          rotate_left
          · intro w; go_simp; try with_reducible rfl
          refine wpAny_ready (rs := [2]) (by kernel_rfl) (by simp) ?_
          refine AllReady.cons rfl (fun K hK => ?_) ?_
          · go_simp
            go_at_call 9
            refine (new_op _ (by omega) _).mono ?_
            rintro e v35 ⟨ka, rfl, h1, h2, h3⟩
            have v350 := Lib.hid (v320.out.below' h3)
            have v358 := Lib.hid (v328.out.below' h3)
            have v35a := Lib.hid h2
            have v35B := Lib.hid (v32B.out.trans (h3.mono v32B.out.size))
            have la : RowKit.Hid (wa.heap.size ≤ ka) := Lib.hid (by have := v32B.out.size; omega)
            clear h1 h2 h3
            try go_simp
            refine hK _ _ ?_
            clear hK K
            refine wpAny_ready (rs := [6]) (by kernel_rfl) (by simp) ?_
            refine AllReady.cons rfl (fun K hK => ?_) ?_
            · go_simp
              go_at_call 9
              refine (new_op _ (by omega) _).mono ?_
              rintro e v36 ⟨kb, rfl, h1, h2, h3⟩
              have v360 := Lib.hid (v350.out.below' h3)
              have v36a := Lib.hid (v35a.out.below' h3)
              have v368 := Lib.hid (v358.out.below' h3)
              have v36b := Lib.hid h2
              have v36B := Lib.hid (v35B.out.trans (h3.mono v35B.out.size))
              have lb : RowKit.Hid (wa.heap.size ≤ kb) := Lib.hid (by have := v35B.out.size; omega)
              clear h1 h2 h3
              try go_simp
              refine hK _ _ ?_
              clear hK K
              refine wpAny_take (i := 8) (v := ?_) rfl (by kernel_rfl) (by kernel_rfl) (by kernel_rfl) (fun _ _ _ h => h) (Or.inl ⟨by rfl, ?_⟩) ?_
              rotate_left
              · intro w; go_simp; try with_reducible rfl
              refine wpAny_ready (rs := [9]) (by kernel_rfl) (by simp) ?_
              refine AllReady.cons rfl (fun K hK => ?_) ?_
              · have c8 := v368.out.one
                have f8 := v368.out.frozen 0
                go_simp
                refine hK _ _ ?_
                clear hK K
                refine wpAny_done (by kernel_rfl) ?_ _
                simp only [calm]
                go_wp2_with fail
                go_meet
                exact ⟨ka, kb, k8, rfl, rfl, two_store v36a.out v36b.out v368.out la.out lb.out l8.out, v36B.out.setCell (p := ⟨k8, 0, none⟩) l8.out _⟩
              exact AllReady.nil
            exact AllReady.nil
          exact AllReady.nil
        exact AllReady.nil
      refine AllReady.cons rfl (fun K hK => ?_) ?_
      · have c0 := v320.out.one
        go_simp
        clear c0
        refine hK _ _ ?_
        clear hK K
        refine wpAny_take (i := 4) (v := ?_) rfl (by kernel_rfl) (by kernel_rfl) (by kernel_rfl) (fun _ _ _ h => h) (Or.inl ⟨by rfl, ?_⟩) ?_
        rotate_left
        · intro w; go_simp; try with_reducible rfl
        refine wpAny_take (i := 5) (v := ?_) rfl (by kernel_rfl) (by kernel_rfl) (by kernel_rfl) (fun _ _ _ h => h) (Or.inl ⟨by rfl, ?_⟩) ?_
        rotate_left
        · intro w; go_simp; try with_reducible rfl
        refine wpAny_ready (rs := [0]) (by kernel_rfl) (by simp) ?_
        refine AllReady.cons rfl (fun K hK => ?_) ?_
        · have c0 := v320.out.one
          go_simp
          clear c0
          refine hK _ _ ?_
          clear hK K
          refine wpAny_take (i := 1) (v := ?_) rfl (by kernel_rfl) (by kernel_rfl) (by kernel_rfl) (fun _ _ _ h => h) (Or.inl ⟨by rfl, ?_⟩) ?_
          rotate_left
          · intro w; go_simp; try with_reducible rfl
          refine wpAny_ready (rs := [2]) (by kernel_rfl) (by simp) ?_
          refine AllReady.cons rfl (fun K hK => ?_) ?_
          · go_simp
            go_at_call 9
            refine (new_op _ (by omega) _).mono ?_
            rintro e v37 ⟨ka, rfl, h1, h2, h3⟩
            have v370 := Lib.hid (v320.out.below' h3)
            have v378 := Lib.hid (v328.out.below' h3)
            have v37a := Lib.hid h2
            have v37B := Lib.hid (v32B.out.trans (h3.mono v32B.out.size))
            have la : RowKit.Hid (wa.heap.size ≤ ka) := Lib.hid (by have := v32B.out.size; omega)
            clear h1 h2 h3
            try go_simp
            refine hK _ _ ?_
            clear hK K
            refine wpAny_ready (rs := [6]) (by kernel_rfl) (by simp) ?_
            refine AllReady.cons rfl (fun K hK => ?_) ?_
            · go_simp
              go_at_call 9
              refine (new_op _ (by omega) _).mono ?_
              rintro e v38 ⟨kb, rfl, h1, h2, h3⟩
              have v380 := Lib.hid (v370.out.below' h3)
              have v38a := Lib.hid (v37a.out.below' h3)
              have v388 := Lib.hid (v378.out.below' h3)
              have v38b := Lib.hid h2
              have v38B := Lib.hid (v37B.out.trans (h3.mono v37B.out.size))
              have lb : RowKit.Hid (wa.heap.size ≤ kb) := Lib.hid (by have := v37B.out.size; omega)
              clear h1 h2 h3
              try go_simp
              refine hK _ _ ?_
              clear hK K
              refine wpAny_take (i := 8) (v := ?_) rfl (by kernel_rfl) (by kernel_rfl) (by kernel_rfl) (fun _ _ _ h => h) (Or.inl ⟨by rfl, ?_⟩) ?_
              rotate_left
              · intro w; go_simp; try with_reducible rfl
              refine wpAny_ready (rs := [9]) (by kernel_rfl) (by simp) ?_
              refine AllReady.cons rfl (fun K hK => ?_) ?_
              · have c8 := v388.out.one
                have f8 := v388.out.frozen 0
                go_simp
                refine hK _ _ ?_
                clear hK K
                refine wpAny_done (by kernel_rfl) ?_ _
                simp only [calm]
                go_wp2_with fail
                go_meet
                exact ⟨ka, kb, k8, rfl, rfl, two_store v38a.out v38b.out v388.out la.out lb.out l8.out, v38B.out.setCell (p := ⟨k8, 0, none⟩) l8.out _⟩
              exact AllReady.nil
            exact AllReady.nil
          exact AllReady.nil
        exact AllReady.nil
      exact AllReady.nil
    exact AllReady.nil
  case rest =>
    obtain ⟨ka, kb, k8, rfl, rfl, h2, hb2⟩ := hcut
    obtain ⟨wb, rfl⟩ : ∃ u, u = wc := ⟨_, rfl⟩
    have M0 := Lib.hid (L0.out.below' hb2)
    have M1 := Lib.hid (L1.out.below' hb2)
    have M2 := Lib.hid (L2.out.below' hb2)
    have HD2 : RowKit.Hid (d0 < wa.heap.size ∧ d1 < wa.heap.size ∧ d2 < wa.heap.size) := Lib.hid ⟨L0.out.lt, L1.out.lt, L2.out.lt⟩
    have HBB : RowKit.Hid (w.heap.size ≤ wa.heap.size) := Lib.hid HB1.out.size
    have hne : ka ≠ kb := fun e => by
      have h1 := h2.a
      rw [e] at h1
      have := (show wb.heap[kb]? = _ from h1).symm.trans (show wb.heap[kb]? = _ from h2.b)
      simp at this
      omega
    have hn8 : ∀ k vs, Blk wb k vs 61 → k ≠ k8 := fun k vs h e => by
      subst e
      have := (show wb.heap[k]? = _ from h).symm.trans (show wb.heap[k]? = _ from h2.v)
      cases this
    have HN : RowKit.Hid (ka ≠ kb ∧ ka ≠ k8 ∧ kb ≠ k8) := Lib.hid ⟨hne, hn8 _ _ h2.a, hn8 _ _ h2.b⟩
    have A0 : RowKit.Hid (Ar 61 3 wb wa.heap.size ka l.length 0 (.slice none 0 0) []) := Lib.hid ⟨h2.la, h2.a, World.ownsRow_nil _ _ _ _, by simp, by omega, by simp, by omega⟩
    have B0 : RowKit.Hid (Ar 61 3 wb wa.heap.size kb ((l.length : Int) + 1) 0 (.slice none 0 0) []) := Lib.hid ⟨h2.lb, h2.b, World.ownsRow_nil _ _ _ _, by simp; omega, by omega, by simp, by omega⟩
    have V0 := Lib.hid h2.v
    have BX : RowKit.Hid (Below wa.heap.size wa wb) := Lib.hid hb2
    have K8 := Lib.hid h2.lv
    have c0 : wb.cell? ⟨d0, 0, none⟩ = some (.slice A l.length c) := M0.out.one
    have P1 := Lib.hid (put_first wb wa.heap.size ka l.length _ A c l.length (ints l) (ints_length l) NC.out (ints_one l) (by omega) (by omega) BX.out.size A0.out (HA.out.below (bt HB1.out BX.out HB1.out.size)))
    clear h2 hb2 hne hn8 K0 K1 K2 HB0 L0 L1 L2
    go_wp2_with (go_at_call 12; refine P1.out.mono ?_; clear P1; rintro e w3 ⟨rfl, v3, ha3, ht3⟩; have A3 := Lib.hid ha3; have B3 := Lib.hid (B0.out.other ht3 (fun e => HN.out.1 e.symm) (by simp [Value.ownBlock]) (by simp [Value.ownBlock]) (by simp [Value.ownBlock])); have V3 := Lib.hid (V0.out.turn ht3 (fun e => HN.out.2.1 e.symm) (by simp [Value.ownBlock])); have B4 := Lib.hid (BX.out.trans (ht3.below A0.out BX.out.size)); have c1 := Blk.one (Blk.below M0.out (ht3.below A0.out BX.out.size) HD2.out.1); clear ha3 ht3)
    clear A0 B0 V0
    go_loopw [11, 12, 13] (fun s _ _ wr => ∃ (i : Nat) (v : Value) (pk : Int), i ≤ l.length ∧ s = .int .i64 i ∧ Ar 61 3 wr wa.heap.size kb ((l.length : Int) + 1) pk v (ints (l.take i)) ∧ Ar 61 3 wr wa.heap.size ka l.length l.length v3 (ints l) ∧ Blk wr k8 #[.pointer (some ⟨kb, 0, none⟩)] 25 ∧ Below wa.heap.size wa wr ∧ (∀ k, v.ownBlock = some k → v3.ownBlock ≠ some k)) (fun s _ _ _ => l.length - (intOf s).toNat)
    case atStart => exact ⟨0, .slice none 0 0, 0, by omega, rfl, by simpa [ints] using B3.out, A3.out, V3.out, B4.out, by simp [Value.ownBlock]⟩
    case round =>
      obtain ⟨i, v5, pk5, hil, rfl, hb5, ha5, hv5, hw5, hs5⟩ := hrel
      obtain ⟨we, rfl⟩ : ∃ u, u = wr := ⟨_, rfl⟩
      have B5 := Lib.hid hb5
      have A5 := Lib.hid ha5
      have V5 := Lib.hid hv5
      have W5 := Lib.hid hw5
      have S5 := Lib.hid hs5
      have D5 : RowKit.Hid (Blk we d0 #[.slice A l.length c] 28 ∧ Blk we d1 #[.int .i64 x] 3 ∧ Blk we d2 #[.bool false] 4) := Lib.hid ⟨Blk.old M0.out BX.out hw5 HD2.out.1, Blk.old M1.out BX.out hw5 HD2.out.2.1, Blk.old M2.out BX.out hw5 HD2.out.2.2⟩
      have c3 : we.cell? ⟨d0, 0, none⟩ = some (.slice A l.length c) := D5.out.1.one
      have c4 : we.cell? ⟨k8, 0, none⟩ = some (.pointer (some ⟨kb, 0, none⟩)) := V5.out.one
      clear hb5 ha5 hv5 hw5 hs5 c0 c1 A3 B3 V3 B4
      by_cases hit : i < l.length
      · have hit2 : (i : Int) < l.length := by omega
        obtain ⟨ab, ao, rfl, hal, c5⟩ := lies_cell HA.out hit
        have HBW : RowKit.Hid (Below w.heap.size w we) := Lib.hid (bt HB1.out W5.out HB1.out.size)
        have c6 := (HBW.out.cell (p := ⟨ab, ao + i, none⟩) hal).trans c5
        obtain ⟨y, ey⟩ : ∃ y, y = l.getD i 0 := ⟨_, rfl⟩
        rw [← ey] at c6
        have EY := Lib.hid ey
        clear c5 ey hal
        go_wp2_with fail
        go_cut [12, 13] from 44 to 53 (fun s12 s13 wx => s12 = .int .i64 i ∧ s13 = .int .i64 0 ∧ ∃ v' pk, Ar 61 3 wx wa.heap.size kb ((l.length : Int) + 1) pk v' (ints (l.take i) ++ [.int .i64 y]) ∧ Turn we wx kb v5 v')
        case first =>
          refine wp_mono (Q := calm _) ?_ (calm_le _)
          have hm := mixed
          refine wp_region_any hm ?_
          simp only [List.size_toArray, List.length_cons, List.length_nil, Nat.reduceAdd]
          obtain ⟨wd, ed⟩ : ∃ u : World, u = { we with drawn := we.drawn + 1 } := ⟨_, rfl⟩
          rw [← ed]
          have ED := Lib.hid ed
          have k3 : wd.cell? ⟨d0, 0, none⟩ = some (.slice (some ⟨ab, ao, none⟩) l.length c) := by rw [ed]; exact c3
          have k4 : wd.cell? ⟨k8, 0, none⟩ = some (.pointer (some ⟨kb, 0, none⟩)) := by rw [ed]; exact c4
          have k5 : wd.cell? ⟨ab, ao + i, none⟩ = some (.int .i64 y) := by rw [ed]; exact c6
          have k6 : (wd.alloc (.cells #[.int .i64 y] 3)).cell? ⟨k8, 0, none⟩ = some (.pointer (some ⟨kb, 0, none⟩)) := by rw [ed]; exact Blk.one (T := 25) (V5.out.alloc _)
          have BD : Ar 61 3 wd wa.heap.size kb ((l.length : Int) + 1) pk5 v5 (ints (l.take i)) := by rw [ed]; exact B5.out.kept rfl (fun _ _ => rfl)
          have P2 := Lib.hid (put_one wd wa.heap.size kb i ((l.length : Int) + 1) pk5 v5 (.int .i64 y) _ (by rw [ints_length]; simp; omega) rfl (by omega) (by omega) (by rw [ed]; exact W5.out.size) BD)
          clear ed c3 c4 c6 BD
          refine wpAny_take (i := 2) (v := ?_) rfl (by kernel_rfl) (by kernel_rfl) (by kernel_rfl) (fun _ _ _ h => h) (Or.inl ⟨by rfl, ?_⟩) ?_
          rotate_left
          · intro w; go_simp; try with_reducible rfl
          refine wpAny_ready (rs := [0, 1]) (by kernel_rfl) (by simp) ?_
          refine AllReady.cons rfl (fun K hK => ?_) ?_
          · go_simp
            refine hK _ _ ?_
            clear hK K
            refine wpAny_ready (rs := [1]) (by kernel_rfl) (by simp) ?_
            refine AllReady.cons rfl (fun K hK => ?_) ?_
            · go_simp
              refine hK _ _ ?_
              clear hK K
              refine wpAny_take (i := 3) (v := ?_) rfl (by kernel_rfl) (by kernel_rfl) (by kernel_rfl) (fun _ _ _ h => h) (Or.inl ⟨by rfl, ?_⟩) ?_
              rotate_left
              · intro w; go_simp; try with_reducible rfl
              refine wpAny_ready (rs := [4]) (by kernel_rfl) (by simp) ?_
              refine AllReady.cons rfl (fun K hK => ?_) ?_
              · go_simp
                refine hK _ _ ?_
                clear hK K
                refine wpAny_ready (rs := [5]) (by kernel_rfl) (by simp) ?_
                refine AllReady.cons rfl (fun K hK => ?_) ?_
                · go_simp
                  refine hK _ _ ?_
                  clear hK K
                  refine wpAny_ready (rs := [6]) (by kernel_rfl) (by simp) ?_
                  refine AllReady.cons rfl (fun K hK => ?_) ?_
                  · go_simp
                    go_at_call 12
                    refine P2.out.mono ?_
                    rintro e w6 ⟨rfl, v6, pk6, ha6, ht6⟩
                    have HA6 := Lib.hid ha6
                    have HT6 := Lib.hid ht6
                    clear ha6 ht6
                    try go_simp
                    refine hK _ _ ?_
                    clear hK K
                    refine wpAny_take (i := 7) (v := ?_) rfl (by kernel_rfl) (by kernel_rfl) (by kernel_rfl) (fun _ _ _ h => h) (Or.inl ⟨by rfl, ?_⟩) ?_
                    rotate_left
                    · intro w; go_simp; try with_reducible rfl
                    refine wpAny_take (i := 8) (v := ?_) rfl (by kernel_rfl) (by kernel_rfl) (by kernel_rfl) (fun _ _ _ h => h) (Or.inl ⟨by rfl, ?_⟩) ?_
                    rotate_left
                    · intro w; go_simp; try with_reducible rfl
                    refine wpAny_take (i := 9) (v := ?_) rfl (by kernel_rfl) (by kernel_rfl) (by kernel_rfl) (fun _ _ _ h => h) (Or.inl ⟨by rfl, ?_⟩) ?_
                    rotate_left
                    · intro w; go_simp; try with_reducible rfl
                    refine wpAny_take (i := 10) (v := ?_) rfl (by kernel_rfl) (by kernel_rfl) (by kernel_rfl) (fun _ _ _ h => h) (Or.inl ⟨by rfl, ?_⟩) ?_
                    rotate_left
                    · intro w; go_simp; try with_reducible rfl
                    refine wpAny_take (i := 11) (v := ?_) rfl (by kernel_rfl) (by kernel_rfl) (by kernel_rfl) (fun _ _ _ h => h) (Or.inl ⟨by rfl, ?_⟩) ?_
                    rotate_left
                    · intro w; go_simp; try with_reducible rfl
                    refine wpAny_done (by kernel_rfl) ?_ _
                    simp only [calm]
                    go_wp2_with fail
                    go_meet
                    exact ⟨rfl, rfl, v6, pk6, HA6.out, turn_drew ED.out HT6.out⟩
                  exact AllReady.nil
                exact AllReady.nil
              exact AllReady.nil
            exact AllReady.nil
          refine AllReady.cons rfl (fun K hK => ?_) ?_
          · go_simp
            refine hK _ _ ?_
            clear hK K
            refine wpAny_take (i := 3) (v := ?_) rfl (by kernel_rfl) (by kernel_rfl) (by kernel_rfl) (fun _ _ _ h => h) (Or.inl ⟨by rfl, ?_⟩) ?_
            rotate_left
            · intro w; go_simp; try with_reducible rfl
            refine wpAny_ready (rs := [0, 4]) (by kernel_rfl) (by simp) ?_
            refine AllReady.cons rfl (fun K hK => ?_) ?_
            · go_simp
              refine hK _ _ ?_
              clear hK K
              refine wpAny_ready (rs := [4]) (by kernel_rfl) (by simp) ?_
              refine AllReady.cons rfl (fun K hK => ?_) ?_
              · go_simp
                refine hK _ _ ?_
                clear hK K
                refine wpAny_ready (rs := [5]) (by kernel_rfl) (by simp) ?_
                refine AllReady.cons rfl (fun K hK => ?_) ?_
                · go_simp
                  refine hK _ _ ?_
                  clear hK K
                  refine wpAny_ready (rs := [6]) (by kernel_rfl) (by simp) ?_
                  refine AllReady.cons rfl (fun K hK => ?_) ?_
                  · go_simp
                    go_at_call 12
                    refine P2.out.mono ?_
                    rintro e w6 ⟨rfl, v6, pk6, ha6, ht6⟩
                    have HA6 := Lib.hid ha6
                    have HT6 := Lib.hid ht6
                    clear ha6 ht6
                    try go_simp
                    refine hK _ _ ?_
                    clear hK K
                    refine wpAny_take (i := 7) (v := ?_) rfl (by kernel_rfl) (by kernel_rfl) (by kernel_rfl) (fun _ _ _ h => h) (Or.inl ⟨by rfl, ?_⟩) ?_
                    rotate_left
                    · intro w; go_simp; try with_reducible rfl
                    refine wpAny_take (i := 8) (v := ?_) rfl (by kernel_rfl) (by kernel_rfl) (by kernel_rfl) (fun _ _ _ h => h) (Or.inl ⟨by rfl, ?_⟩) ?_
                    rotate_left
                    · intro w; go_simp; try with_reducible rfl
                    refine wpAny_take (i := 9) (v := ?_) rfl (by kernel_rfl) (by kernel_rfl) (by kernel_rfl) (fun _ _ _ h => h) (Or.inl ⟨by rfl, ?_⟩) ?_
                    rotate_left
                    · intro w; go_simp; try with_reducible rfl
                    refine wpAny_take (i := 10) (v := ?_) rfl (by kernel_rfl) (by kernel_rfl) (by kernel_rfl) (fun _ _ _ h => h) (Or.inl ⟨by rfl, ?_⟩) ?_
                    rotate_left
                    · intro w; go_simp; try with_reducible rfl
                    refine wpAny_take (i := 11) (v := ?_) rfl (by kernel_rfl) (by kernel_rfl) (by kernel_rfl) (fun _ _ _ h => h) (Or.inl ⟨by rfl, ?_⟩) ?_
                    rotate_left
                    · intro w; go_simp; try with_reducible rfl
                    refine wpAny_done (by kernel_rfl) ?_ _
                    simp only [calm]
                    go_wp2_with fail
                    go_meet
                    exact ⟨rfl, rfl, v6, pk6, HA6.out, turn_drew ED.out HT6.out⟩
                  exact AllReady.nil
                exact AllReady.nil
              exact AllReady.nil
            refine AllReady.cons rfl (fun K hK => ?_) ?_
            · go_simp
              refine hK _ _ ?_
              clear hK K
              refine wpAny_ready (rs := [0, 5]) (by kernel_rfl) (by simp) ?_
              refine AllReady.cons rfl (fun K hK => ?_) ?_
              · go_simp
                refine hK _ _ ?_
                clear hK K
                refine wpAny_ready (rs := [5]) (by kernel_rfl) (by simp) ?_
                refine AllReady.cons rfl (fun K hK => ?_) ?_
                · go_simp
                  refine hK _ _ ?_
                  clear hK K
                  refine wpAny_ready (rs := [6]) (by kernel_rfl) (by simp) ?_
                  refine AllReady.cons rfl (fun K hK => ?_) ?_
                  · go_simp
                    go_at_call 12
                    refine P2.out.mono ?_
                    rintro e w6 ⟨rfl, v6, pk6, ha6, ht6⟩
                    have HA6 := Lib.hid ha6
                    have HT6 := Lib.hid ht6
                    clear ha6 ht6
                    try go_simp
                    refine hK _ _ ?_
                    clear hK K
                    refine wpAny_take (i := 7) (v := ?_) rfl (by kernel_rfl) (by kernel_rfl) (by kernel_rfl) (fun _ _ _ h => h) (Or.inl ⟨by rfl, ?_⟩) ?_
                    rotate_left
                    · intro w; go_simp; try with_reducible rfl
                    refine wpAny_take (i := 8) (v := ?_) rfl (by kernel_rfl) (by kernel_rfl) (by kernel_rfl) (fun _ _ _ h => h) (Or.inl ⟨by rfl, ?_⟩) ?_
                    rotate_left
                    · intro w; go_simp; try with_reducible rfl
                    refine wpAny_take (i := 9) (v := ?_) rfl (by kernel_rfl) (by kernel_rfl) (by kernel_rfl) (fun _ _ _ h => h) (Or.inl ⟨by rfl, ?_⟩) ?_
                    rotate_left
                    · intro w; go_simp; try with_reducible rfl
                    refine wpAny_take (i := 10) (v := ?_) rfl (by kernel_rfl) (by kernel_rfl) (by kernel_rfl) (fun _ _ _ h => h) (Or.inl ⟨by rfl, ?_⟩) ?_
                    rotate_left
                    · intro w; go_simp; try with_reducible rfl
                    refine wpAny_take (i := 11) (v := ?_) rfl (by kernel_rfl) (by kernel_rfl) (by kernel_rfl) (fun _ _ _ h => h) (Or.inl ⟨by rfl, ?_⟩) ?_
                    rotate_left
                    · intro w; go_simp; try with_reducible rfl
                    refine wpAny_done (by kernel_rfl) ?_ _
                    simp only [calm]
                    go_wp2_with fail
                    go_meet
                    exact ⟨rfl, rfl, v6, pk6, HA6.out, turn_drew ED.out HT6.out⟩
                  exact AllReady.nil
                exact AllReady.nil
              refine AllReady.cons rfl (fun K hK => ?_) ?_
              · go_simp
                refine hK _ _ ?_
                clear hK K
                refine wpAny_ready (rs := [0]) (by kernel_rfl) (by simp) ?_
                refine AllReady.cons rfl (fun K hK => ?_) ?_
                · go_simp
                  refine hK _ _ ?_
                  clear hK K
                  refine wpAny_ready (rs := [6]) (by kernel_rfl) (by simp) ?_
                  refine AllReady.cons rfl (fun K hK => ?_) ?_
                  · go_simp
                    go_at_call 12
                    refine P2.out.mono ?_
                    rintro e w6 ⟨rfl, v6, pk6, ha6, ht6⟩
                    have HA6 := Lib.hid ha6
                    have HT6 := Lib.hid ht6
                    clear ha6 ht6
                    try go_simp
                    refine hK _ _ ?_
                    clear hK K
                    refine wpAny_take (i := 7) (v := ?_) rfl (by kernel_rfl) (by kernel_rfl) (by kernel_rfl) (fun _ _ _ h => h) (Or.inl ⟨by rfl, ?_⟩) ?_
                    rotate_left
                    · intro w; go_simp; try with_reducible rfl
                    refine wpAny_take (i := 8) (v := ?_) rfl (by kernel_rfl) (by kernel_rfl) (by kernel_rfl) (fun _ _ _ h => h) (Or.inl ⟨by rfl, ?_⟩) ?_
                    rotate_left
                    · intro w; go_simp; try with_reducible rfl
                    refine wpAny_take (i := 9) (v := ?_) rfl (by kernel_rfl) (by kernel_rfl) (by kernel_rfl) (fun _ _ _ h => h) (Or.inl ⟨by rfl, ?_⟩) ?_
                    rotate_left
                    · intro w; go_simp; try with_reducible rfl
                    refine wpAny_take (i := 10) (v := ?_) rfl (by kernel_rfl) (by kernel_rfl) (by kernel_rfl) (fun _ _ _ h => h) (Or.inl ⟨by rfl, ?_⟩) ?_
                    rotate_left
                    · intro w; go_simp; try with_reducible rfl
                    refine wpAny_take (i := 11) (v := ?_) rfl (by kernel_rfl) (by kernel_rfl) (by kernel_rfl) (fun _ _ _ h => h) (Or.inl ⟨by rfl, ?_⟩) ?_
                    rotate_left
                    · intro w; go_simp; try with_reducible rfl
                    refine wpAny_done (by kernel_rfl) ?_ _
                    simp only [calm]
                    go_wp2_with fail
                    go_meet
                    exact ⟨rfl, rfl, v6, pk6, HA6.out, turn_drew ED.out HT6.out⟩
                  exact AllReady.nil
                exact AllReady.nil
              exact AllReady.nil
            exact AllReady.nil
          exact AllReady.nil
        case rest =>
          obtain ⟨rfl, rfl, v6, pk6, ha6, ht6⟩ := hcut
          obtain ⟨wf, rfl⟩ : ∃ u, u = wc := ⟨_, rfl⟩
          have e6 : ints (l.take i) ++ [.int .i64 y] = ints (l.take (i + 1)) := by have := ints_snoc [] hit; rw [List.nil_append, List.nil_append] at this; rw [EY.out]; exact this
          rw [e6] at ha6
          have A6 := Lib.hid (A5.out.other ht6 HN.out.1 (own_ne B5.out.own A5.out.blk (by decide)) (own_ne A5.out.own B5.out.blk (by decide)) (fun k h1 h2 => S5.out k h2 h1))
          have V6 := Lib.hid (V5.out.turn ht6 (fun e => HN.out.2.2 e.symm) (own_ne B5.out.own V5.out (by decide)))
          have W6 := Lib.hid (W5.out.trans (ht6.below B5.out W5.out.size))
          have B6 := Lib.hid ha6
          have S6 : RowKit.Hid (∀ k, v6.ownBlock = some k → v3.ownBlock ≠ some k) := Lib.hid (fun k h1 h2 => by
            rcases ht6.fresh k h1 with h | h
            · exact S5.out k h h2
            · have := (A5.out.own.lt k h2).2; omega)
          clear ha6 ht6 e6 c3 c4 c6
          go_wp2_with fail
          go_roundw
          case rel => exact ⟨i + 1, v6, pk6, hit, by go_num, B6.out, A6.out, V6.out, W6.out, S6.out⟩
          case measure => simp [intOf]; omega
      · obtain rfl : i = l.length := by omega
        have hit2 : ¬ (l.length : Int) < l.length := by omega
        rw [List.take_length] at B5
        have f0 : ∀ o, (we.alloc o).cell? ⟨d0, 0, none⟩ = some (.slice A l.length c) := fun o => (D5.out.1.alloc o).one
        have f1 : ∀ o, (we.alloc o).cell? ⟨d1, 0, none⟩ = some (.int .i64 x) := fun o => (D5.out.2.1.alloc o).one
        go_wp2_with (go_at_call 10; refine (PK.out _).mono ?_; rintro e w4 ⟨rfl, rfl⟩)
        obtain ⟨wk, ewk⟩ : ∃ u, u = we.alloc (.cells #[.int .i64 (p : Int)] 3) := ⟨_, rfl⟩
        obtain ⟨kk, ekk⟩ : ∃ k, k = we.heap.size := ⟨_, rfl⟩
        rw [← ewk, ← ekk]
        have KK : RowKit.Hid (Blk wk kk #[.int .i64 (p : Int)] 3) := Lib.hid (by rw [ewk, ekk]; exact Blk.new _ _ _)
        have hbk : Below we.heap.size we wk := by rw [ewk]; exact B1 _ _
        have AK := Lib.hid (A5.out.below hbk)
        have BK := Lib.hid (B5.out.below hbk)
        have VK := Lib.hid (V5.out.below' hbk)
        have DK : RowKit.Hid (Blk wk d0 #[.slice A l.length c] 28 ∧ Blk wk d1 #[.int .i64 x] 3 ∧ Blk wk d2 #[.bool false] 4) := Lib.hid ⟨D5.out.1.below' hbk, D5.out.2.1.below' hbk, D5.out.2.2.below' hbk⟩
        have WK := Lib.hid (bt W5.out hbk W5.out.size)
        have LK : RowKit.Hid (wa.heap.size ≤ kk) := Lib.hid (by rw [ekk]; exact W5.out.size)
        have NV : RowKit.Hid (v3.ownBlock ≠ some kk) := Lib.hid (fun e => by have := (A5.out.own.lt kk e).2; omega)
        clear ewk ekk hbk A5 B5 V5 D5 W5 f0 f1 c3 c4 hil hit
        obtain ⟨E, hE, hS⟩ := set_both ka l.length l.length v3 l wa.heap.size p x hp2 wk AK.out
        have HS := Lib.hid hS
        clear hS
        have c7 : ∀ w', Turn wk w' ka v3 v3 → w'.cell? ⟨kk, 0, none⟩ = some (.int .i64 (p : Int)) ∧ w'.cell? ⟨d0, 0, none⟩ = some (.slice A l.length c) ∧ w'.cell? ⟨k8, 0, none⟩ = some (.pointer (some ⟨kb, 0, none⟩)) ∧ w'.cell? ⟨d1, 0, none⟩ = some (.int .i64 x) := fun w' ht =>
          ⟨(KK.out.turn ht (neT KK.out AK.out.blk (by decide)) NV.out).one, (DK.out.1.turn ht (by have := AK.out.lo; have := HD2.out.1; omega) (fun e => by have := (AK.out.own.lt d0 e).1; have := HD2.out.1; omega)).one, (VK.out.turn ht (fun e => HN.out.2.1 e.symm) (own_ne AK.out.own VK.out (by decide))).one, (DK.out.2.1.turn ht (by have := AK.out.lo; have := HD2.out.2.1; omega) (fun e => by have := (AK.out.own.lt d1 e).1; have := HD2.out.2.1; omega)).one⟩
        have c7b : RowKit.Hid (∀ w', Turn wk w' ka v3 v3 → Blk w' kk #[.int .i64 (p : Int)] 3 ∧ Blk w' d0 #[.slice A l.length c] 28 ∧ Blk w' k8 #[.pointer (some ⟨kb, 0, none⟩)] 25 ∧ Blk w' d1 #[.int .i64 x] 3 ∧ Blk w' d2 #[.bool false] 4 ∧ Ar 61 3 w' wa.heap.size kb ((l.length : Int) + 1) pk5 v5 (ints l) ∧ Below wa.heap.size wa w') := Lib.hid (fun w' ht =>
          ⟨KK.out.turn ht (neT KK.out AK.out.blk (by decide)) NV.out, DK.out.1.turn ht (by have := AK.out.lo; have := HD2.out.1; omega) (fun e => by have := (AK.out.own.lt d0 e).1; have := HD2.out.1; omega), VK.out.turn ht (fun e => HN.out.2.1 e.symm) (own_ne AK.out.own VK.out (by decide)), DK.out.2.1.turn ht (by have := AK.out.lo; have := HD2.out.2.1; omega) (fun e => by have := (AK.out.own.lt d1 e).1; have := HD2.out.2.1; omega),
            DK.out.2.2.turn ht (by have := AK.out.lo; have := HD2.out.2.2; omega) (fun e => by have := (AK.out.own.lt d2 e).1; have := HD2.out.2.2; omega), BK.out.other ht (fun e => HN.out.1 e.symm) (own_ne AK.out.own BK.out.blk (by decide)) (own_ne BK.out.own AK.out.blk (by decide)) S5.out, WK.out.trans (ht.below AK.out WK.out.size)⟩)
        go_wp2_with (go_at_call 16; refine HS.out.mono ?_; rintro e w7 ⟨rfl, ha7, ht7⟩; have A7 := Lib.hid ha7; have F7 := Lib.hid (c7b.out w7 ht7); obtain ⟨c8, c9, c10, c11⟩ := c7 w7 ht7; clear ha7 ht7 c7)
        clear AK BK VK DK WK KK HS c7b
        go_wp2_with (go_at_call 21; refine (all_any ka l.length l.length v3 _ wa.heap.size w7 A7.out).mono ?_; rintro e w8 ⟨rfl, rfl⟩)
        obtain ⟨wl, ewl⟩ : ∃ u, u = w7.alloc (.cells #[.pointer (some ⟨ka, 0, none⟩)] 25) := ⟨_, rfl⟩
        obtain ⟨cb, ecb⟩ : ∃ k, k = w7.heap.size := ⟨_, rfl⟩
        rw [← ewl, ← ecb]
        have hbl : Below w7.heap.size w7 wl := by rw [ewl]; exact B1 _ _
        have BC : RowKit.Hid (Blk wl cb #[.pointer (some ⟨ka, 0, none⟩)] 25) := Lib.hid (by rw [ewl, ecb]; exact Blk.new _ _ _)
        have F8 : RowKit.Hid (Facts wl kk d0 k8 d1 d2 kb ka A c l p pk5 v5 v3 x wa.heap.size wa) := Lib.hid
          ⟨F7.out.1.below' hbl, F7.out.2.1.below' hbl, F7.out.2.2.1.below' hbl, F7.out.2.2.2.1.below' hbl, F7.out.2.2.2.2.1.below' hbl, F7.out.2.2.2.2.2.1.below hbl, A7.out.below hbl, bt F7.out.2.2.2.2.2.2 hbl F7.out.2.2.2.2.2.2.size⟩
        have WW : RowKit.Hid (wa.heap.size ≤ wl.heap.size) := Lib.hid F8.out.w.size
        clear F7 A7 ewl ecb hbl c8 c9 c10 c11 hE
        refine (wpIn_wide (n := 12)).1 ?_
        refine wpIn_rangeFunc_n (n := 12) (by omega) (gf := 42) (lb := #[.pointer (some ⟨cb, 0, none⟩)]) rfl (enters_of Try.func42 (by kernel_rfl) rfl)
          (all_seq 11 (by omega) cb ka v3 (ints (l.set p x)) (by rw [ints_length, List.length_set]; omega) (fun k => k < wl.heap.size) BC.out.lt F8.out.a.blk.lt (fun k e => (F8.out.a.own.lt k e).2) wl BC.out ⟨(ar_cells F8.out.a).1, own0 F8.out.a.own⟩)
          (Below.refl _ _) (fun _ => rfl) (fun k h => h)
          (fun _ W => Facts W kk d0 k8 d1 d2 kb ka A c l p pk5 v5 v3 x wa.heap.size wa) (fun _ _ _ => False) (fun _ _ _ h hb => h.low F8.out hb WW.out) (fun _ _ _ _ h _ => h) F8.out
          (fun k => { tmps := #[Value.slice A l.length c, Value.int IntKind.i64 at_, Value.int IntKind.i64 x, Value.pointer (some { block := d0, off := 0 }), undef, Value.pointer (some { block := d1, off := 0 }), Value.pointer (some { block := d2, off := 0 }), Value.pointer (some { block := ka, off := 0 }), Value.pointer (some { block := k8, off := 0 }), Value.int IntKind.i64 0, Value.int IntKind.i64 0, Value.int IntKind.i64 ↑l.length, u12, u13, Value.pointer (some { block := kk, off := 0 }), Value.int IntKind.i64 E, Value.int IntKind.i64 (k : Int), (ints (l.set p x))[k]?.getD undef, undef, undef, Value.bool true, Value.bool false, Value.slice A l.length c, Value.int IntKind.i64 ↑l.length, Value.bool (decide ((400 : Int) < (l.length : Int))), u25, u26, u27, u28, u29, u30, u31, Value.tuple #[Value.int IntKind.i64 0, Value.int IntKind.i64 0], Value.pointer (some { block := ka, off := 0 }), Value.slice A l.length c, Value.tuple #[Value.int IntKind.i64 0, Value.int IntKind.i64 0], Value.int IntKind.i64 0, Value.int IntKind.i64 0, Value.int IntKind.i64 ↑l.length, Value.slice A l.length c, Value.int IntKind.i64 ↑l.length, Value.bool false, u42, u43, u44, u45, u46, u47, u48, u49, u50, u51, u52, u53, u54, u55, u56, u57, u58, u59, u60, Value.int IntKind.i64 at_, Value.slice A l.length c, Value.int IntKind.i64 ↑l.length, Value.int IntKind.i64 (↑l.length + 1), Value.int IntKind.i64 ↑p, Value.pointer (some { block := ka, off := 0 }), Value.int IntKind.i64 ↑p, Value.int IntKind.i64 x, Value.int IntKind.i64 E, Value.int IntKind.i64 0, Value.bool false, Value.bool false, Value.int IntKind.i64 E, Value.bool (decide (p < l.length)), Value.int IntKind.i64 ↑p, Value.slice A l.length c, Value.int IntKind.i64 ↑l.length, Value.bool (decide (p < l.length)), Value.bool false, Value.bool false, Value.pointer (some { block := ka, off := 0 }), Value.func (Fn.func 42) #[] #[Value.pointer (some { block := cb, off := 0 })], Value.int IntKind.i64 (k : Int), (ints (l.set p x))[k]?.getD undef, undef, undef, undef, undef, undef, undef, undef, undef, undef, undef, undef, undef, undef, undef, undef, undef, undef, undef, undef, undef, undef, undef, undef, undef, undef, undef, undef, undef, undef, undef, undef, undef, undef, undef, undef, undef, undef, undef, undef, undef, undef], defers := [] }) ?assign ?body ?done ?stop
        case assign =>
          intro l2 k W K hK
          gi_wp2
          exact hK
        case body =>
          rintro l2 k W hF hz hk
          have hk2 : k < l.length := by rw [ints_length, List.length_set] at hk; exact hk
          obtain ⟨ab, ao, rfl, hal, c5⟩ := lies_cell HA.out hk2
          have hbw : Below w.heap.size w W := bt HB1.out hF.w HB1.out.size
          have c6 := (hbw.cell (p := ⟨ab, ao + k, none⟩) hal).trans c5
          have c1 : W.cell? ⟨kk, 0, none⟩ = some (.int .i64 p) := hF.k.one
          have c2 := hF.z.one
          have c3 : W.cell? ⟨k8, 0, none⟩ = some (.pointer (some ⟨kb, 0, none⟩)) := hF.e.one
          have c4 : W.cell? ⟨d1, 0, none⟩ = some (.int .i64 x) := hF.o.one
          have AT := Lib.hid (i_at_yes kb ((l.length : Int) + 1) pk5 v5 (ints l) wa.heap.size k _ (ints_at hk2) W hF.b)
          have HF := Lib.hid hF
          have hx : (ints (l.set p x))[k]?.getD undef = .int .i64 (if p = k then x else l.getD k 0) := by
            rw [← List.getD_eq_getElem?_getD]
            rw [ints_getD (by rw [List.length_set]; exact hk2)]
            congr 1
            rw [List.getD_eq_getElem?_getD, List.getElem?_set]
            by_cases e : p = k
            · rw [if_pos e, if_pos e, if_pos (by omega)]; rfl
            · rw [if_neg e, if_neg e, List.getD_eq_getElem?_getD]
          rw [hx]
          generalize l.getD k 0 = y at c6 AT ⊢
          have hk3 : (k : Int) < l.length := by omega
          clear hF hx c5 hal hbw hk hz
          by_cases e : p = k
          · subst e
            rw [if_pos rfl]
            gi_wp2_with (refine ⟨trivial, ?_⟩; gi_at_call 27; refine (CallsIn.inRound l2 (callsIn_wide.2 AT.out)).mono ?_; rintro e w9 ⟨rfl, rfl⟩)
            exact ⟨Left.refl _ _ _, HF.out⟩
          · rw [if_neg e]
            have he : ((k : Int) == p) = false := by simp; omega
            have he2 : ¬ (k : Int) = p := by omega
            gi_wp2_with (refine ⟨trivial, ?_⟩; gi_at_call 27; refine (CallsIn.inRound l2 (callsIn_wide.2 AT.out)).mono ?_; rintro e w9 ⟨rfl, rfl⟩)
            exact ⟨Left.refl _ _ _, HF.out⟩
        case stop =>
          rintro D c' k W hD hk h hK
          exact h.elim
        case done =>
          rintro D W hD hF hK
          have c2 := hF.z.one
          have c3 := hF.r.one
          have f3 := hF.r.frozen 0
          have HF := Lib.hid hF
          have HK := Lib.hid hK
          clear hF hK
          have hDw : wa.heap.size ≤ D := by have := WW.out; omega
          have hDn : D ≠ d2 := by have := HD2.out.2.2; omega
          go_wp2_with fail
          refine wp_mono (Q := calm _) ?_ (calm_le _)
          have hm := mixed
          refine wp_region_any hm ?_
          simp only [List.size_toArray, List.length_cons, List.length_nil, Nat.reduceAdd]
          obtain ⟨wd, ed⟩ : ∃ u : World, u = { W with drawn := W.drawn + 1 } := ⟨_, rfl⟩
          rw [← ed]
          have k2 : wd.cell? ⟨d0, 0, none⟩ = some (.slice A l.length c) := by rw [ed]; exact c2
          have k3 : wd.cell? ⟨d2, 0, none⟩ = some (.bool false) := by rw [ed]; exact c3
          have k4 : wd.frozen? ⟨d2, 0, none⟩ = false := by rw [ed]; exact f3
          have hA9 : Ar 61 3 wd wa.heap.size ka l.length l.length v3 (ints (l.set p x)) := by rw [ed]; exact HF.out.a.kept rfl (fun _ _ => rfl)
          have LN := Lib.hid (len_is ka l.length l.length l.length v3 _ wa.heap.size (by rw [ints_length, List.length_set]) wd hA9)
          have HK3 : RowKit.Hid ((wd.setCell ⟨d2, 0, none⟩ (.bool true)).heap[D]? = some (.deferred (some []))) := Lib.hid (by rw [Below.heap_setCell _ _ _ D (show D ≠ d2 from hDn), ed]; exact HK.out)
          have FIN : RowKit.Hid (((wd.setCell ⟨d2, 0, none⟩ (.bool true)).putObj D (.deferred none)).cell? ⟨d2, 0, none⟩ = some (.bool true) ∧ Below w.heap.size w ((wd.setCell ⟨d2, 0, none⟩ (.bool true)).putObj D (.deferred none))) := Lib.hid ⟨by
            have hb : Blk (wd.setCell ⟨d2, 0, none⟩ (.bool true)) d2 #[.bool true] 4 := heap_setCell_same wd d2 0 #[.bool false] 4 (.bool true) (by rw [ed]; exact HF.out.r)
            exact Blk.one (T := 4) ((World.putObj_heap_other (by have := HD2.out.2.2; omega)).trans hb), by
            have h1 : Below w.heap.size w wd := by rw [ed]; exact bdrew1 (bt HB1.out HF.out.w HB1.out.size)
            exact (h1.setCell (p := ⟨d2, 0, none⟩) HD.out.2.2.1 _).trans (below_putObj _ D _ _ (by have := HBB.out; omega))⟩
          clear ed hA9 c2 c3 f3
          refine wpAny_take (i := 0) (v := ?_) rfl (by kernel_rfl) (by kernel_rfl) (by kernel_rfl) (fun _ _ _ h => h) (Or.inl ⟨by rfl, ?_⟩) ?_
          rotate_left
          · intro w; go_simp; try with_reducible rfl
          refine wpAny_ready (rs := [1, 2]) (by kernel_rfl) (by simp) ?_
          refine AllReady.cons rfl (fun K hK => ?_) ?_
          · go_simp
            go_at_call 24
            refine (LN.out).mono ?_
            rintro e w9 ⟨rfl, rfl⟩
            try go_simp
            refine hK _ _ ?_
            clear hK K
            refine wpAny_ready (rs := [2]) (by kernel_rfl) (by simp) ?_
            refine AllReady.cons rfl (fun K hK => ?_) ?_
            · go_simp
              refine hK _ _ ?_
              clear hK K
              refine wpAny_take (i := 3) (v := ?_) rfl (by kernel_rfl) (by kernel_rfl) (by kernel_rfl) (fun _ _ _ h => h) (Or.inl ⟨by rfl, ?_⟩) ?_
              rotate_left
              · intro w; go_simp; try with_reducible rfl
              refine wpAny_take (i := 4) (v := ?_) rfl (by kernel_rfl) (by kernel_rfl) (by kernel_rfl) (fun _ _ _ h => h) (Or.inl ⟨by rfl, ?_⟩) ?_
              rotate_left
              · intro w; go_simp; try with_reducible rfl
              refine wpAny_ready (rs := [5]) (by kernel_rfl) (by simp) ?_
              refine AllReady.cons rfl (fun K hK => ?_) ?_
              · go_simp
                refine hK _ _ ?_
                clear hK K
                refine wpAny_done (by kernel_rfl) ?_ _
                simp only [calm]
                go_wp2_with fail
                refine ⟨by simp, .inl ⟨_, _, rfl, run_takeDeferred HK3.out, ?_⟩⟩
                exact ⟨_, results_b rfl _ _ d2 true rfl FIN.out.1, rfl, FIN.out.2⟩
              exact AllReady.nil
            exact AllReady.nil
          refine AllReady.cons rfl (fun K hK => ?_) ?_
          · go_simp
            refine hK _ _ ?_
            clear hK K
            refine wpAny_take (i := 3) (v := ?_) rfl (by kernel_rfl) (by kernel_rfl) (by kernel_rfl) (fun _ _ _ h => h) (Or.inl ⟨by rfl, ?_⟩) ?_
            rotate_left
            · intro w; go_simp; try with_reducible rfl
            refine wpAny_ready (rs := [1]) (by kernel_rfl) (by simp) ?_
            refine AllReady.cons rfl (fun K hK => ?_) ?_
            · go_simp
              go_at_call 24
              refine (LN.out).mono ?_
              rintro e w9 ⟨rfl, rfl⟩
              try go_simp
              refine hK _ _ ?_
              clear hK K
              refine wpAny_take (i := 4) (v := ?_) rfl (by kernel_rfl) (by kernel_rfl) (by kernel_rfl) (fun _ _ _ h => h) (Or.inl ⟨by rfl, ?_⟩) ?_
              rotate_left
              · intro w; go_simp; try with_reducible rfl
              refine wpAny_ready (rs := [5]) (by kernel_rfl) (by simp) ?_
              refine AllReady.cons rfl (fun K hK => ?_) ?_
              · go_simp
                refine hK _ _ ?_
                clear hK K
                refine wpAny_done (by kernel_rfl) ?_ _
                simp only [calm]
                go_wp2_with fail
                refine ⟨by simp, .inl ⟨_, _, rfl, run_takeDeferred HK3.out, ?_⟩⟩
                exact ⟨_, results_b rfl _ _ d2 true rfl FIN.out.1, rfl, FIN.out.2⟩
              exact AllReady.nil
            exact AllReady.nil
          exact AllReady.nil

set_option maxRecDepth 100000 in
set_option maxHeartbeats 1000000 in
theorem sets_long (A : Option Addr) (n c : Nat) (at_ x : Int) (h : 400 < n) (w : World) :
    Calls Try.prog 6 #[.slice A n c, .int .i64 at_, .int .i64 x] w fun e w' => e = .returned (.bool true) ∧ Below w.heap.size w w' := by
  have h2 : (400 : Int) < n := by omega
  refine (callsIn_wide (n := 12)).1 ?_
  refine callsIn_of_wp_marks Try.func6 rfl trivial ?_ rfl
  simp only [Try.ntmps6, List.size_toArray, List.length_cons, List.length_nil, Nat.reduceAdd, Nat.reduceSub, Array.replicate_succ, Array.replicate_zero, List.push_toArray, List.append_toArray, List.nil_append, List.cons_append]
  refine wpIn_wide.2 ?_
  go_wp2_with fail
  have hK0 : Blk (((w.alloc (.cells #[.slice A n c] 28)).alloc (.cells #[.int .i64 x] 3)).alloc (.cells #[.bool false] 4)) w.heap.size #[.slice A n c] 28 := ((Blk.new w _ _).alloc _).alloc _
  have hK2 : Blk (((w.alloc (.cells #[.slice A n c] 28)).alloc (.cells #[.int .i64 x] 3)).alloc (.cells #[.bool false] 4)) (w.heap.size + 1 + 1) #[.bool false] 4 := by have := Blk.new ((w.alloc (.cells #[.slice A n c] 28)).alloc (.cells #[.int .i64 x] 3)) #[.bool false] 4; simpa using this
  have hb0 : Below w.heap.size w (((w.alloc (.cells #[.slice A n c] 28)).alloc (.cells #[.int .i64 x] 3)).alloc (.cells #[.bool false] 4)) := (B2 _ _ _).alloc (by simp; omega) _
  generalize hW0 : ((w.alloc (.cells #[.slice A n c] 28)).alloc (.cells #[.int .i64 x] 3)).alloc (.cells #[.bool false] 4) = W0 at hK0 hK2 hb0 ⊢
  obtain ⟨d2, ed2⟩ : ∃ d2, d2 = w.heap.size + 1 + 1 := ⟨_, rfl⟩
  rw [← ed2] at hK2 ⊢
  obtain ⟨d0, ed0⟩ : ∃ d0, d0 = w.heap.size := ⟨_, rfl⟩
  rw [← ed0] at hK0 ⊢
  have HD : RowKit.Hid (w.heap.size ≤ d2) := Lib.hid (by omega)
  have K0 := Lib.hid hK0
  have K2 := Lib.hid hK2
  have HB0 := Lib.hid hb0
  clear ed0 ed2 hK0 hK2 hb0 hW0
  go_wp2_with (go_at_call 8; refine (awake_any _).mono ?_; rintro e w1 ⟨rfl, hb1⟩; have L2 := Lib.hid (K2.out.below' hb1); have c0 := (K0.out.below' hb1).one; have c2 := (K2.out.below' hb1).one; have f2 := (K2.out.below' hb1).frozen 0; have HB1 := Lib.hid (bb HB0.out hb1); clear hb1)
  exact ⟨_, results_b rfl _ _ d2 true rfl (Blk.one (T := 4) (heap_setCell_same w1 d2 0 #[.bool false] 4 (.bool true) L2.out)), rfl, HB1.out.setCell (p := ⟨d2, 0, none⟩) HD.out _⟩
end Go.Proofs.Ytfcacgiejoeneaa

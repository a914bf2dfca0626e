/- Contract of All of an arena of ints, as a range-function. -/
import Derived.Test.YtfcacgiejoeneaaWn
import Derived.Test.YtfcacgiejoeneaaRo
namespace Go.Proofs.Ytfcacgiejoeneaa
open Go Go.RowKit Go.Shelf
attribute [local go_sem] Oper.semAt_some

theorem mixed : Try.prog.follows .mixedOrders = true := by kernel_rfl
theorem Ext3.low {w w' : World} {b B : Nat} {v : Value} {xs : List Value} (h : Ext3 w b v xs) (hb : Below B w w') (h1 : b < B) (h2 : ∀ k, v.ownBlock = some k → k < B) : Ext3 w' b v xs :=
  h.kept (hb.block b h1) (fun k e => hb.block k (h2 k e))
theorem numbers_seq (n : Nat) (hn : 1 ≤ n) (p b : Nat) (v : Value) (xs : List Value) (hxl : xs.length < 9223372036854775807) (G : Nat → Prop) (hp : G p) (hb : G b) (hv : ∀ k, v.ownBlock = some k → G k) (w : World)
    (hbox : Blk w p #[.pointer (some ⟨b, 0, none⟩)] 77) (hx : Ext3 w b v xs) : SeqN n Try.prog 51 #[.pointer (some ⟨p, 0, none⟩)] (fun k => #[.int .i64 k]) xs.length G w :=
  fun l J Jx W hW hJ hJx hY h0 => numbers1_in n hn l p b v xs hxl G hp hb hv J Jx W.heap.size hY W (Nat.le_refl _) (hbox.below' hW) (hx.below hW) h0
theorem round_any {m m' : Nat} {P : Program} {l : Nat} {f : FuncId} {tmps : Array Value} {assign body : Code} {w : World} {R : Ending → World → Prop}
    (h : RoundIn Fence.wide m P l f tmps assign body w R) : RoundIn Fence.wide m' P l f tmps assign body w R := ⟨h.1, fun c cs _ => h.2 c cs (fun d h => by cases h)⟩
set_option maxRecDepth 100000 in
set_option maxHeartbeats 2000000 in
theorem all1_in (n : Nat) (hn : 6 ≤ n) (l cb b : Nat) (v : Value) (xs : List Value) (hxl : xs.length < 9223372036854775807) (G : Nat → Prop) (hcb : G cb) (hb : G b) (hv : ∀ k, v.ownBlock = some k → G k) (J Jx : Nat → World → Prop)
    (W : World) (hJ : Low W.heap.size J) (hJx : Low W.heap.size Jx)
    (hY : ∀ k W1, J k W1 → W.heap.size ≤ W1.heap.size → k < xs.length → YieldAt Fence.wide (n - 1) Try.prog l #[.int .i64 k, xs.getD k undef] W1 fun e W' =>
      (e = .returned (.bool true) ∧ J (k + 1) W' ∧ Left G W.heap.size W1 W') ∨ (e = .returned (.bool false) ∧ Jx (k + 1) W' ∧ Left (fun _ => False) W.heap.size W1 W'))
    (hbox : Blk W cb #[.pointer (some ⟨b, 0, none⟩)] 25) (hx : Ext3 W b v xs) (h0 : J 0 W) :
    CallsIn Fence.wide n Try.prog 42 #[.func (.yield l) #[] #[], .pointer (some ⟨cb, 0, none⟩)] W fun e W' => (∃ v, e = .returned v) ∧ (J xs.length W' ∨ ∃ k, k ≤ xs.length ∧ Jx k W') := by
  have h1 : 1 ≤ n := by omega
  have c0 : (W.alloc (.cells #[.func (.yield l) #[] #[]] 65)).cell? ⟨cb, 0, none⟩ = some (.pointer (some ⟨b, 0, none⟩)) := (hbox.alloc _).cell 0
  have HX := Lib.hid hx
  have HY := Lib.hid hY
  have H0 := Lib.hid h0
  have HV := Lib.hid hv
  have HB := Lib.hid hbox
  have HP := Lib.hid hcb
  have HG := Lib.hid hb
  have HJ := Lib.hid hJ
  have HJx := Lib.hid hJx
  clear hx hY h0 hv hbox hcb hb hJ hJx
  refine callsIn_of_wp_marks Try.func42 rfl trivial ?_ rfl
  simp only [Try.ntmps42, List.size_toArray, List.length_cons, List.length_nil, Nat.reduceAdd, Nat.reduceSub, Array.replicate_succ, Array.replicate_zero, List.push_toArray, List.append_toArray, List.nil_append, List.cons_append]
  gi_wp2_with (refine ⟨trivial, ?_⟩; gi_at_call 43; refine (callsIn_wide.2 (numbers_any _ _)).mono ?_; rintro e w1 ⟨rfl, rfl⟩)
  have hY1 := Blk.new W #[.func (.yield l) #[] #[]] 65
  have hY2 := hY1.alloc (.cells #[.pointer (some ⟨b, 0, none⟩)] 77)
  have hP2 := Blk.new (W.alloc (.cells #[.func (.yield l) #[] #[]] 65)) #[.pointer (some ⟨b, 0, none⟩)] 77
  have hb2 := B2 W (.cells #[.func (.yield l) #[] #[]] 65) (.cells #[.pointer (some ⟨b, 0, none⟩)] 77)
  have hsz : ((W.alloc (.cells #[.func (.yield l) #[] #[]] 65)).alloc (.cells #[.pointer (some ⟨b, 0, none⟩)] 77)).heap.size = W.heap.size + 2 := by simp
  have hp3 : (W.alloc (.cells #[.func (.yield l) #[] #[]] 65)).heap.size = W.heap.size + 1 := by simp
  rw [hp3] at hP2
  generalize hW2 : (W.alloc (.cells #[.func (.yield l) #[] #[]] 65)).alloc (.cells #[.pointer (some ⟨b, 0, none⟩)] 77) = W2 at hY2 hP2 hb2 hsz ⊢
  clear hW2 hY1 hp3
  have hcl : cb < W2.heap.size := by have := HB.out.lt; omega
  have hbl : b < W2.heap.size := by have := HX.out.lt; omega
  have hvl : RowKit.Hid (∀ k, v.ownBlock = some k → k < W2.heap.size) := Lib.hid (fun k e => by have := (HX.out.own.lt k e).2; omega)
  have HB2 := Lib.hid (HB.out.below' hb2)
  have HX2 := Lib.hid (HX.out.below hb2)
  have HY2 := Lib.hid hY2
  have HJ2 := Lib.hid (HJ.out 0 _ _ H0.out hb2)
  refine wpIn_rangeFunc_n h1 (gf := 51) (lb := #[.pointer (some ⟨W.heap.size + 1, 0, none⟩)]) rfl (enters_of Try.func51 (by kernel_rfl) rfl)
    (numbers_seq (n - 1) (by omega) (W.heap.size + 1) b v xs hxl (fun k => k < W2.heap.size ∧ (G k ∨ W.heap.size ≤ k)) ⟨by omega, .inr (by omega)⟩ ⟨hbl, .inl HG.out⟩ (fun k e => ⟨hvl.out k e, .inl (HV.out k e)⟩) W2 hP2 HX2.out)
    (Below.refl _ _) (fun _ => rfl) (fun k h => h.1)
    (fun k W' => J k W' ∧ Blk W' cb #[.pointer (some ⟨b, 0, none⟩)] 25 ∧ Ext3 W' b v xs ∧ Blk W' W.heap.size #[.func (.yield l) #[] #[]] 65)
    (fun c k W' => c = .ret ∧ Jx k W')
    ?low ?lowx ⟨HJ2.out, HB2.out, HX2.out, HY2.out⟩
    (fun k => { tmps := #[.func (.yield l) #[] #[], .pointer (some ⟨cb, 0, none⟩), .pointer (some ⟨W.heap.size, 0, none⟩), .int .i64 k, .pointer (some ⟨b, 0, none⟩), .pointer (some ⟨b, 0, none⟩), .pointer (some ⟨b, 0, none⟩), .func (.func 51) #[] #[.pointer (some ⟨W.heap.size + 1, 0, none⟩)], .int .i64 k, undef, undef, undef, undef, undef, undef, undef, undef, undef, undef, undef, undef], defers := [] }) ?assign ?body ?done ?stop
  case low =>
    rintro k A A' ⟨h2, h3, h4, h5⟩ hb
    exact ⟨HJ.out k _ _ h2 (hb.mono (by omega)), h3.below hb hcl, h4.low hb hbl hvl.out, h5.below hb (by omega)⟩
  case lowx =>
    rintro c k A A' ⟨h2, h3⟩ hb
    exact ⟨h2, HJx.out k _ _ h3 (hb.mono (by omega))⟩
  case assign =>
    intro l k W K hK
    gi_wp2
    exact hK
  case body =>
    rintro l2 k W3 ⟨hJk, hc, hx, hy⟩ hz hk
    have c1 : W3.cell? ⟨cb, 0, none⟩ = some (.pointer (some ⟨b, 0, none⟩)) := hc.cell 0
    have c2 : W3.cell? ⟨W.heap.size, 0, none⟩ = some (.func (.yield l) #[] #[]) := hy.cell 0
    have c3 := hx.cell
    have d1 : xs[k]? = some (xs.getD k undef) := by simp [List.getD, List.getElem?_eq_getElem hk]
    obtain ⟨g, cap, rfl, _, hcap, _⟩ := own_shape hx.own (by omega)
    have c4 := (hx.own.cellAt k (by omega)).trans d1
    have hk2 : (k : Int) < xs.length := by omega
    have hJd : J k W3.drew := HJ.out k _ _ hJk (bdrew1 (Below.refl _ _))
    obtain ⟨fn, tmps, assign, body, hyl, hR⟩ := HY.out k W3.drew hJd (by show W.heap.size ≤ W3.heap.size; omega) hk
    generalize xs.getD k undef = x at hyl hR c4
    have hm := mixed
    have HR : RowKit.Hid (RoundIn Fence.wide (n - 1 - 1 - 1) Try.prog l fn tmps assign body W3.drew (fun e W' => ∃ r : Bool, e = .returned (.bool r) ∧ ((r = true ∧ J (k + 1) W' ∧ Left G W.heap.size W3.drew W') ∨ (r = false ∧ Jx (k + 1) W' ∧ Left (fun _ => False) W.heap.size W3.drew W')))) :=
      Lib.hid (round_any (hR.mono (fun e W' h => by
        rcases h with ⟨h1, h2⟩ | ⟨h1, h2⟩
        · exact ⟨true, h1, .inl ⟨rfl, h2⟩⟩
        · exact ⟨false, h1, .inr ⟨rfl, h2⟩⟩)))
    have HC := Lib.hid hc
    have HX3 := Lib.hid hx
    have HY3 := Lib.hid hy
    have HSZ := Lib.hid hsz
    have hge : 1 ≤ n - 1 - 1 := by omega
    clear hR hc hx hy hJk hJd d1 c0 hY2 hP2 hb2 hsz hcl hbl hz h1 hn HB2 HX2 HY2 HJ2 H0 hvl
    gi_wp2_with fail
    refine wpIn_region_round hm (by kernel_rfl) ?_
    simp only [List.size_toArray, List.length_cons, List.length_nil, Nat.reduceAdd]
    refine wpAnyIn_take (i := 1) (v := ?_) rfl rfl (by kernel_rfl) (by kernel_rfl) (by kernel_rfl) (fun _ _ _ h => h) ⟨Or.inl ⟨by rfl, ?_⟩, fun _ => rfl⟩ ?_
    rotate_left
    · intro w; go_simp; try with_reducible rfl
    refine wpAnyIn_take (i := 7) (v := ?_) rfl rfl (by kernel_rfl) (by kernel_rfl) (by kernel_rfl) (fun _ _ _ h => h) ⟨Or.inl ⟨by rfl, ?_⟩, fun _ => rfl⟩ ?_
    rotate_left
    · intro w; go_simp; try with_reducible rfl
    refine wpAnyIn_ready (rs := [0, 2]) (by kernel_rfl) (by simp) ?_
    refine AllReadyIn.cons rfl (fun K hK => ?_) ?_
    · go_simp
      refine hK _ _ ?_
      clear hK K
      refine wpAnyIn_ready (rs := [2]) (by kernel_rfl) (by simp) ?_
      refine AllReadyIn.cons rfl (fun K hK => ?_) ?_
      · go_simp
        refine hK _ _ ?_
        clear hK K
        refine wpAnyIn_take (i := 3) (v := ?_) rfl rfl (by kernel_rfl) (by kernel_rfl) (by kernel_rfl) (fun _ _ _ h => h) ⟨Or.inl ⟨by rfl, ?_⟩, fun _ => rfl⟩ ?_
        rotate_left
        · intro w; go_simp; try with_reducible rfl
        refine wpAnyIn_take (i := 4) (v := ?_) rfl rfl (by kernel_rfl) (by kernel_rfl) (by kernel_rfl) (fun _ _ _ h => h) ⟨Or.inl ⟨by rfl, ?_⟩, fun _ => rfl⟩ ?_
        rotate_left
        · intro w; go_simp; try with_reducible rfl
        refine wpAnyIn_take (i := 5) (v := ?_) rfl rfl (by kernel_rfl) (by kernel_rfl) (by kernel_rfl) (fun _ _ _ h => h) ⟨Or.inl ⟨by rfl, ?_⟩, fun _ => rfl⟩ ?_
        rotate_left
        · intro w; go_simp; try with_reducible rfl
        refine wpAnyIn_ready (rs := [6]) (by kernel_rfl) (by simp) ?_
        refine AllReadyIn.cons rfl (fun K hK => ?_) ?_
        · go_simp
          refine hK _ _ ?_
          clear hK K
          refine wpAnyIn_take (i := 8) (v := ?_) rfl rfl (by kernel_rfl) (by kernel_rfl) (by kernel_rfl) (fun _ _ _ h => h) ⟨Or.inl ⟨by rfl, ?_⟩, fun _ => rfl⟩ ?_
          rotate_left
          · intro w; go_simp; try with_reducible rfl
          refine wpAnyIn_ready (rs := [9]) (by kernel_rfl) (by simp) ?_
          refine AllReadyIn.cons rfl (fun K hK => ?_) ?_
          · go_simp
            refine hK _ _ ?_
            clear hK K
            refine wpAnyIn_ready (rs := [10]) (by kernel_rfl) (by simp) ?_
            refine AllReadyIn.cons rfl (fun K hK => ?_) ?_
            · go_simp
              refine HR.out.mono ?_
              rintro e W4 ⟨r, rfl, hr4⟩
              have HR4 := Lib.hid hr4
              clear hr4
              try go_simp
              refine hK _ _ ?_
              clear hK K
              refine wpAnyIn_take (i := 11) (v := ?_) rfl rfl (by kernel_rfl) (by kernel_rfl) (by kernel_rfl) (fun _ _ _ h => h) ⟨Or.inl ⟨by rfl, ?_⟩, fun _ => rfl⟩ ?_
              rotate_left
              · intro w; go_simp; try with_reducible rfl
              refine wpAnyIn_done (by kernel_rfl) ?_ _
              cases r with
              | true =>
                rcases HR4.out with ⟨_, hJ4, hl4⟩ | ⟨h, _⟩
                · have HJ4 := Lib.hid hJ4
                  have HL4 : RowKit.Hid (Left G W.heap.size W3 W4) := Lib.hid ⟨hl4.size, hl4.block⟩
                  clear hJ4 hl4
                  gi_wp2_with fail
                  exact ⟨HL4.out.mono (fun j _ h => by rcases h with h | h; exact h.2; exact .inr (by have := HSZ.out; omega)), HJ4.out, (HL4.out.block cb HC.out.lt (.inl HP.out)).trans HC.out, HX3.out.left HL4.out (.inl HG.out) (fun j e => .inl (HV.out j e)), (HL4.out.block _ HY3.out.lt (.inr (Nat.le_refl _))).trans HY3.out⟩
                · cases h
              | false =>
                rcases HR4.out with ⟨h, _⟩ | ⟨_, hJ4, hl4⟩
                · cases h
                · have HJ4 := Lib.hid hJ4
                  have HL4 : RowKit.Hid (Left (fun _ => False) W.heap.size W3 W4) := Lib.hid ⟨hl4.size, hl4.block⟩
                  clear hJ4 hl4
                  gi_wp2_with fail
                  exact ⟨HL4.out.mono (fun j _ h => by rcases h with h | h; exact h.elim; exact .inr (by have := HSZ.out; omega)), rfl, HJ4.out⟩
            exact AllReadyIn.nil
          exact AllReadyIn.nil
        exact AllReadyIn.nil
      exact AllReadyIn.nil
    refine AllReadyIn.cons rfl (fun K hK => ?_) ?_
    · go_simp
      refine hK _ _ ?_
      clear hK K
      refine wpAnyIn_take (i := 3) (v := ?_) rfl rfl (by kernel_rfl) (by kernel_rfl) (by kernel_rfl) (fun _ _ _ h => h) ⟨Or.inl ⟨by rfl, ?_⟩, fun _ => rfl⟩ ?_
      rotate_left
      · intro w; go_simp; try with_reducible rfl
      refine wpAnyIn_take (i := 4) (v := ?_) rfl rfl (by kernel_rfl) (by kernel_rfl) (by kernel_rfl) (fun _ _ _ h => h) ⟨Or.inl ⟨by rfl, ?_⟩, fun _ => rfl⟩ ?_
      rotate_left
      · intro w; go_simp; try with_reducible rfl
      refine wpAnyIn_take (i := 5) (v := ?_) rfl rfl (by kernel_rfl) (by kernel_rfl) (by kernel_rfl) (fun _ _ _ h => h) ⟨Or.inl ⟨by rfl, ?_⟩, fun _ => rfl⟩ ?_
      rotate_left
      · intro w; go_simp; try with_reducible rfl
      refine wpAnyIn_ready (rs := [0, 6]) (by kernel_rfl) (by simp) ?_
      refine AllReadyIn.cons rfl (fun K hK => ?_) ?_
      · go_simp
        refine hK _ _ ?_
        clear hK K
        refine wpAnyIn_ready (rs := [6]) (by kernel_rfl) (by simp) ?_
        refine AllReadyIn.cons rfl (fun K hK => ?_) ?_
        · go_simp
          refine hK _ _ ?_
          clear hK K
          refine wpAnyIn_take (i := 8) (v := ?_) rfl rfl (by kernel_rfl) (by kernel_rfl) (by kernel_rfl) (fun _ _ _ h => h) ⟨Or.inl ⟨by rfl, ?_⟩, fun _ => rfl⟩ ?_
          rotate_left
          · intro w; go_simp; try with_reducible rfl
          refine wpAnyIn_ready (rs := [9]) (by kernel_rfl) (by simp) ?_
          refine AllReadyIn.cons rfl (fun K hK => ?_) ?_
          · go_simp
            refine hK _ _ ?_
            clear hK K
            refine wpAnyIn_ready (rs := [10]) (by kernel_rfl) (by simp) ?_
            refine AllReadyIn.cons rfl (fun K hK => ?_) ?_
            · go_simp
              refine HR.out.mono ?_
              rintro e W4 ⟨r, rfl, hr4⟩
              have HR4 := Lib.hid hr4
              clear hr4
              try go_simp
              refine hK _ _ ?_
              clear hK K
              refine wpAnyIn_take (i := 11) (v := ?_) rfl rfl (by kernel_rfl) (by kernel_rfl) (by kernel_rfl) (fun _ _ _ h => h) ⟨Or.inl ⟨by rfl, ?_⟩, fun _ => rfl⟩ ?_
              rotate_left
              · intro w; go_simp; try with_reducible rfl
              refine wpAnyIn_done (by kernel_rfl) ?_ _
              cases r with
              | true =>
                rcases HR4.out with ⟨_, hJ4, hl4⟩ | ⟨h, _⟩
                · have HJ4 := Lib.hid hJ4
                  have HL4 : RowKit.Hid (Left G W.heap.size W3 W4) := Lib.hid ⟨hl4.size, hl4.block⟩
                  clear hJ4 hl4
                  gi_wp2_with fail
                  exact ⟨HL4.out.mono (fun j _ h => by rcases h with h | h; exact h.2; exact .inr (by have := HSZ.out; omega)), HJ4.out, (HL4.out.block cb HC.out.lt (.inl HP.out)).trans HC.out, HX3.out.left HL4.out (.inl HG.out) (fun j e => .inl (HV.out j e)), (HL4.out.block _ HY3.out.lt (.inr (Nat.le_refl _))).trans HY3.out⟩
                · cases h
              | false =>
                rcases HR4.out with ⟨h, _⟩ | ⟨_, hJ4, hl4⟩
                · cases h
                · have HJ4 := Lib.hid hJ4
                  have HL4 : RowKit.Hid (Left (fun _ => False) W.heap.size W3 W4) := Lib.hid ⟨hl4.size, hl4.block⟩
                  clear hJ4 hl4
                  gi_wp2_with fail
                  exact ⟨HL4.out.mono (fun j _ h => by rcases h with h | h; exact h.elim; exact .inr (by have := HSZ.out; omega)), rfl, HJ4.out⟩
            exact AllReadyIn.nil
          exact AllReadyIn.nil
        exact AllReadyIn.nil
      refine AllReadyIn.cons rfl (fun K hK => ?_) ?_
      · go_simp
        refine hK _ _ ?_
        clear hK K
        refine wpAnyIn_take (i := 8) (v := ?_) rfl rfl (by kernel_rfl) (by kernel_rfl) (by kernel_rfl) (fun _ _ _ h => h) ⟨Or.inl ⟨by rfl, ?_⟩, fun _ => rfl⟩ ?_
        rotate_left
        · intro w; go_simp; try with_reducible rfl
        refine wpAnyIn_ready (rs := [0, 9]) (by kernel_rfl) (by simp) ?_
        refine AllReadyIn.cons rfl (fun K hK => ?_) ?_
        · go_simp
          refine hK _ _ ?_
          clear hK K
          refine wpAnyIn_ready (rs := [9]) (by kernel_rfl) (by simp) ?_
          refine AllReadyIn.cons rfl (fun K hK => ?_) ?_
          · go_simp
            refine hK _ _ ?_
            clear hK K
            refine wpAnyIn_ready (rs := [10]) (by kernel_rfl) (by simp) ?_
            refine AllReadyIn.cons rfl (fun K hK => ?_) ?_
            · go_simp
              refine HR.out.mono ?_
              rintro e W4 ⟨r, rfl, hr4⟩
              have HR4 := Lib.hid hr4
              clear hr4
              try go_simp
              refine hK _ _ ?_
              clear hK K
              refine wpAnyIn_take (i := 11) (v := ?_) rfl rfl (by kernel_rfl) (by kernel_rfl) (by kernel_rfl) (fun _ _ _ h => h) ⟨Or.inl ⟨by rfl, ?_⟩, fun _ => rfl⟩ ?_
              rotate_left
              · intro w; go_simp; try with_reducible rfl
              refine wpAnyIn_done (by kernel_rfl) ?_ _
              cases r with
              | true =>
                rcases HR4.out with ⟨_, hJ4, hl4⟩ | ⟨h, _⟩
                · have HJ4 := Lib.hid hJ4
                  have HL4 : RowKit.Hid (Left G W.heap.size W3 W4) := Lib.hid ⟨hl4.size, hl4.block⟩
                  clear hJ4 hl4
                  gi_wp2_with fail
                  exact ⟨HL4.out.mono (fun j _ h => by rcases h with h | h; exact h.2; exact .inr (by have := HSZ.out; omega)), HJ4.out, (HL4.out.block cb HC.out.lt (.inl HP.out)).trans HC.out, HX3.out.left HL4.out (.inl HG.out) (fun j e => .inl (HV.out j e)), (HL4.out.block _ HY3.out.lt (.inr (Nat.le_refl _))).trans HY3.out⟩
                · cases h
              | false =>
                rcases HR4.out with ⟨h, _⟩ | ⟨_, hJ4, hl4⟩
                · cases h
                · have HJ4 := Lib.hid hJ4
                  have HL4 : RowKit.Hid (Left (fun _ => False) W.heap.size W3 W4) := Lib.hid ⟨hl4.size, hl4.block⟩
                  clear hJ4 hl4
                  gi_wp2_with fail
                  exact ⟨HL4.out.mono (fun j _ h => by rcases h with h | h; exact h.elim; exact .inr (by have := HSZ.out; omega)), rfl, HJ4.out⟩
            exact AllReadyIn.nil
          exact AllReadyIn.nil
        refine AllReadyIn.cons rfl (fun K hK => ?_) ?_
        · go_simp
          refine hK _ _ ?_
          clear hK K
          refine wpAnyIn_ready (rs := [0]) (by kernel_rfl) (by simp) ?_
          refine AllReadyIn.cons rfl (fun K hK => ?_) ?_
          · go_simp
            refine hK _ _ ?_
            clear hK K
            refine wpAnyIn_ready (rs := [10]) (by kernel_rfl) (by simp) ?_
            refine AllReadyIn.cons rfl (fun K hK => ?_) ?_
            · go_simp
              refine HR.out.mono ?_
              rintro e W4 ⟨r, rfl, hr4⟩
              have HR4 := Lib.hid hr4
              clear hr4
              try go_simp
              refine hK _ _ ?_
              clear hK K
              refine wpAnyIn_take (i := 11) (v := ?_) rfl rfl (by kernel_rfl) (by kernel_rfl) (by kernel_rfl) (fun _ _ _ h => h) ⟨Or.inl ⟨by rfl, ?_⟩, fun _ => rfl⟩ ?_
              rotate_left
              · intro w; go_simp; try with_reducible rfl
              refine wpAnyIn_done (by kernel_rfl) ?_ _
              cases r with
              | true =>
                rcases HR4.out with ⟨_, hJ4, hl4⟩ | ⟨h, _⟩
                · have HJ4 := Lib.hid hJ4
                  have HL4 : RowKit.Hid (Left G W.heap.size W3 W4) := Lib.hid ⟨hl4.size, hl4.block⟩
                  clear hJ4 hl4
                  gi_wp2_with fail
                  exact ⟨HL4.out.mono (fun j _ h => by rcases h with h | h; exact h.2; exact .inr (by have := HSZ.out; omega)), HJ4.out, (HL4.out.block cb HC.out.lt (.inl HP.out)).trans HC.out, HX3.out.left HL4.out (.inl HG.out) (fun j e => .inl (HV.out j e)), (HL4.out.block _ HY3.out.lt (.inr (Nat.le_refl _))).trans HY3.out⟩
                · cases h
              | false =>
                rcases HR4.out with ⟨h, _⟩ | ⟨_, hJ4, hl4⟩
                · cases h
                · have HJ4 := Lib.hid hJ4
                  have HL4 : RowKit.Hid (Left (fun _ => False) W.heap.size W3 W4) := Lib.hid ⟨hl4.size, hl4.block⟩
                  clear hJ4 hl4
                  gi_wp2_with fail
                  exact ⟨HL4.out.mono (fun j _ h => by rcases h with h | h; exact h.elim; exact .inr (by have := HSZ.out; omega)), rfl, HJ4.out⟩
            exact AllReadyIn.nil
          exact AllReadyIn.nil
        exact AllReadyIn.nil
      exact AllReadyIn.nil
    exact AllReadyIn.nil
  case done =>
    rintro D W3 hD ⟨hJk, _⟩ hK
    have HJk := Lib.hid (HJ.out _ _ _ hJk (below_putObj W3 D _ (.deferred none) (by omega)))
    clear hJk HB2 HX2 HY2 HJ2
    gi_wp2
    refine ⟨by simp, .inl ⟨_, _, rfl, run_takeDeferred hK, ?_⟩⟩
    exact ⟨_, results_none rfl _ _ _, ⟨_, rfl⟩, .inl HJk.out⟩
  case stop =>
    rintro D c k W3 hD hk ⟨rfl, hJk⟩ hK
    have HJk := Lib.hid (HJx.out _ _ _ hJk (below_putObj W3 D _ (.deferred none) (by omega)))
    clear hJk HB2 HX2 HY2 HJ2
    gi_wp2
    refine ⟨by simp, .inl ⟨_, _, rfl, run_takeDeferred hK, ?_⟩⟩
    exact ⟨_, results_none rfl _ _ _, ⟨_, rfl⟩, .inr ⟨k, hk, HJk.out⟩⟩

theorem all_seq (n : Nat) (hn : 6 ≤ n) (cb b : Nat) (v : Value) (xs : List Value) (hxl : xs.length < 9223372036854775807) (G : Nat → Prop) (hcb : G cb) (hb : G b) (hv : ∀ k, v.ownBlock = some k → G k) (w : World)
    (hbox : Blk w cb #[.pointer (some ⟨b, 0, none⟩)] 25) (hx : Ext3 w b v xs) : SeqN n Try.prog 42 #[.pointer (some ⟨cb, 0, none⟩)] (fun k => #[.int .i64 k, xs.getD k undef]) xs.length G w :=
  fun l J Jx W hW hJ hJx hY h0 => all1_in n hn l cb b v xs hxl G hcb hb hv J Jx W hJ hJx hY (hbox.below' hW) (hx.below hW) h0
theorem all_any (b : Nat) (most peak : Int) (v : Value) (xs : List Value) (base : Nat) (w : World) (h : Ar 61 3 w base b most peak v xs) :
    Calls Try.prog 21 #[.pointer (some ⟨b, 0, none⟩)] w fun e w' => e = .returned (.func (.func 42) #[] #[.pointer (some ⟨w.heap.size, 0, none⟩)]) ∧ w' = w.alloc (.cells #[.pointer (some ⟨b, 0, none⟩)] 25) := by
  have K := Lib.hid (i_known_any b most peak _ xs base w h)
  clear h
  go_enter Try.func21, Try.ntmps21
  go_wp2_with (go_at_call 41; refine K.out.mono ?_; rintro e w1 ⟨rfl, rfl⟩)
  go_ret
  exact ⟨rfl, rfl⟩
theorem noa_all (p : Option Addr) (w : World) (h : Noa w p) :
    Calls Try.prog 21 #[.pointer p] w fun e w' => ∃ cb b, e = .returned (.func (.func 42) #[] #[.pointer (some ⟨cb, 0, none⟩)]) ∧ Below w.heap.size w w' ∧ Blk w' cb #[.pointer (some ⟨b, 0, none⟩)] 25 ∧ Ext3 w' b (.slice none 0 0) [] ∧ w.heap.size ≤ cb ∧ w.heap.size ≤ b := by
  have K := Lib.hid (noa_known p w h)
  clear h
  go_enter Try.func21, Try.ntmps21
  go_wp2_with (go_at_call 41; refine K.out.mono ?_; rintro e w1 ⟨rfl, hB, hb⟩; have HB := Lib.hid hB; have Hb := Lib.hid hb; clear hB hb)
  go_ret
  exact ⟨w1.heap.size, w.heap.size, rfl, Hb.out.alloc Hb.out.size _, Blk.new _ _ _, ⟨(HB.out.alloc _).cell 0, World.ownsRow_nil _ _ _ _⟩, Hb.out.size, Nat.le_refl _⟩
end Go.Proofs.Ytfcacgiejoeneaa

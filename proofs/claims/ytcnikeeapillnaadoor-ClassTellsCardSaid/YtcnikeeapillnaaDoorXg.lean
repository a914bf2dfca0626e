/- The law ClassJoins: begun. -/
import Derived.Test.YtcnikeeapillnaaDoorXe
import Derived.Laws.AppendOwnNone
namespace Go.Proofs.YtcnikeeapillnaaDoor
open Go Go.RowKit

/-- 'append(own, src...)', src nil or not. -/
theorem wpList_append_copy {P : Program} (w : World) {ops : Array Oper} {rest : List Oper} {o : Oper} {a : Act} {Q : Exit → Act → World → Prop}
    (hg : o.guard = none) (s x : Operand) (t : TypeId) (hop : o.op = Op.call { callee := Callee.builtin Builtin.append, args := #[s, x], argTypes := #[t, t] })
    (base : Nat) (e : TypeId) (i : TypeInfo) (z : Value) (size bytes : Nat) (h1 : P.underlying t = some (.slice e)) (h2 : P.info? e = some i) (h3 : i.zero = some z) (h4 : i.size = size) (h5 : i.bytes = bytes) (h6 : z.cells.size = size) (h7 : 0 < size)
    (v : Value) (k : Nat) (xs : List Value) (hs : a.eval s = v) (hown : w.ownsRow base e size v k xs) (sv : Value) (hx : a.eval x = sv) (m : Nat) (news : List Value) (hn : news.length = m * size)
    (hsrc : (sv = .slice none 0 0 ∧ m = 0 ∧ news = []) ∨ ∃ ad c, sv = .slice (some ad) m c ∧ ∀ j u, news[j]? = some u → w.cell? (ad.add j) = some u)
    (h1c : ∀ u ∈ news, u.oneCell' = true) (b1 : k + m ≤ maxLen) (b2 : (k + m) * bytes ≤ 140737488355328) (b3 : base ≤ w.heap.size)
    (hK : ∀ v' w', w'.ownsRow base e size v' (k + m) (xs ++ news) → w.grownBy w' v.ownBlock → wpList P ops Q rest (a.put o.dst v') w') :
    wpList P ops Q (o :: rest) a w := by
  rcases hsrc with ⟨rfl, rfl, rfl⟩ | ⟨ad, c, rfl, hc⟩
  · refine wpList_append_own_none hg s x t hop base e i size h1 h2 v k xs hs hown hx (hK v w (by simpa using hown) (World.grownBy.refl _ _))
  · exact wpList_append_own w hg s x t hop base e i z size bytes h1 h2 h3 h4 h5 h6 h7 v k xs hs hown ad m c news hx hn hc h1c b1 b2 b3 (fun v' w' a b _ => hK v' w' a b)

/-- A row of values read where a slice leads. -/
def SrcAt (w : World) (B : Nat) (v : Value) (n size : Nat) (cs : List Value) : Prop :=
  (v = .slice none 0 0 ∧ n = 0 ∧ cs = []) ∨ ∃ b off cap, v = .slice (some ⟨b, off, none⟩) n cap ∧ b < B ∧ ∀ j, j < n * size → w.cell? ⟨b, off + j, none⟩ = cs[j]?
theorem SrcAt.below {w w' : World} {B B' : Nat} {v : Value} {n size : Nat} {cs : List Value} (h : SrcAt w B v n size cs) (hb : Below B w w') (hB : B ≤ B') : SrcAt w' B' v n size cs := by
  rcases h with h | ⟨b, off, cap, hv, hl, hc⟩
  · exact .inl h
  · exact .inr ⟨b, off, cap, hv, by omega, fun j hj => (hb.cell (p := ⟨b, off + j, none⟩) hl).trans (hc j hj)⟩
theorem SrcAt.cls {w : World} {B : Nat} {v : Value} {ss : List (Nat → Bool)} (h : SrcAt w B v ss.length 4 (ccells ss)) (hm : ss.length ≤ maxLen) : ClsAt w B v ss := by
  rcases h with ⟨h1, h2, _⟩ | ⟨b, off, cap, hv, hl, hc⟩
  · exact .inl ⟨h1, List.length_eq_zero_iff.1 h2⟩
  · exact .inr ⟨b, off, cap, hv, hl, hm, fun j hj i hi => by rw [Nat.add_assoc, hc (j * 4 + i) (by omega)]; exact ccells_at ss j i hj hi⟩
theorem SrcAt.runs {w : World} {B : Nat} {v : Value} {rs : List (Nat × Nat)} (h : SrcAt w B v rs.length 2 (rcells rs)) (hm : rs.length ≤ maxLen) : RunsAt w B v rs := by
  rcases h with ⟨h1, h2, _⟩ | ⟨b, off, cap, hv, hl, hc⟩
  · exact ⟨none, 0, by rw [h1, h2], hm, fun h => by omega⟩
  · exact ⟨_, cap, hv, hm, fun _ => ⟨b, off, rfl, hl, hc⟩⟩
theorem SrcAt.src {w : World} {B : Nat} {v : Value} {n size : Nat} {cs : List Value} (h : SrcAt w B v n size cs) (hl : cs.length = n * size) :
    (v = .slice none 0 0 ∧ n = 0 ∧ cs = []) ∨ ∃ ad c, v = .slice (some ad) n c ∧ ∀ j u, cs[j]? = some u → w.cell? (ad.add j) = some u := by
  rcases h with h | ⟨b, off, cap, hv, _, hc⟩
  · exact .inl h
  · refine .inr ⟨_, cap, hv, fun j u hu => ?_⟩
    have hj : j < n * size := by rw [← hl]; exact (List.getElem?_eq_some_iff.1 hu).1
    have e : (⟨b, off, none⟩ : Addr).add j = ⟨b, off + j, none⟩ := by simp [Addr.add]
    rw [e, hc j hj, hu]
theorem ccells_one (ss : List (Nat → Bool)) : ∀ u ∈ ccells ss, u.oneCell' = true := by
  intro u hu
  simp only [ccells, List.mem_flatMap] at hu
  obtain ⟨s, _, h⟩ := hu
  simp at h; rcases h with rfl | rfl | rfl | rfl <;> rfl
theorem rcells_onec (rs : List (Nat × Nat)) : ∀ u ∈ rcells rs, u.oneCell' = true := by
  intro u hu
  simp only [rcells, List.mem_flatMap] at hu
  obtain ⟨s, _, h⟩ := hu
  simp at h; rcases h with rfl | rfl <;> rfl

set_option maxRecDepth 100000 in
set_option maxHeartbeats 4000000 in
theorem joins_any (a : Nat → Bool) (vc vr : Value) (ss : List (Nat → Bool)) (rs : List (Nat × Nat)) (w : World) (hT : Tab w) (hsm : Small rs)
    (nc nr : Nat) (ac ar : Option Addr) (cc cr : Nat) (evc : vc = .slice ac ss.length cc) (evr : vr = .slice ar rs.length cr)
    (hc : SrcAt w w.heap.size vc ss.length 4 (ccells ss)) (hr : SrcAt w w.heap.size vr rs.length 2 (rcells rs)) (hlen : ss.length + rs.length ≤ 400) :
    Calls Tryd.prog 4 #[.agg #[.int .u64 (wd a 0), .int .u64 (wd a 1), .int .u64 (wd a 2), .int .u64 (wd a 3)], vc, vr] w fun e w' => e = .returned (.bool true) ∧ Below w.heap.size w w' := by
  have HT := Lib.hid hT
  have HS := Lib.hid hsm
  have HC := Lib.hid hc
  have HR := Lib.hid hr
  have B1 := (Below.refl w.heap.size w).alloc (Nat.le_refl _) (.cells #[.int .u64 (wd a 0), .int .u64 (wd a 1), .int .u64 (wd a 2), .int .u64 (wd a 3)] 25)
  obtain ⟨i0, hi, hz0, hz1, hz2⟩ := info_parts Tryd.info25
  obtain ⟨i1, hj, hy0, hy1, hy2⟩ := info_parts Tryd.info38
  subst evc evr
  clear hT hsm hc hr
  have hle : ((ss.length : Int) + (rs.length : Int)) ≤ 400 := by omega
  have hd : decide (400 < (ss.length : Int) + (rs.length : Int)) = false := by simp; omega
  go_enter Tryd.func4, Tryd.ntmps4
  have hnl : ss.length ≤ maxLen := by unfold maxLen; omega
  have hnr : rs.length ≤ maxLen := by unfold maxLen; omega
  have own1 : ((w.alloc (.cells #[.int .u64 (wd a 0), .int .u64 (wd a 1), .int .u64 (wd a 2), .int .u64 (wd a 3)] 25)).alloc (.cells #[] 25)).ownsRow w.heap.size 25 4 (.slice (some ⟨w.heap.size + 1, 0, none⟩) 0 0) 0 [] := by
    have := World.ownsRow_made (w.alloc (.cells #[.int .u64 (wd a 0), .int .u64 (wd a 1), .int .u64 (wd a 2), .int .u64 (wd a 3)] 25)) (base := w.heap.size) (e := 25) (size := 4) #[] 0 (by simp) (by unfold maxLen; omega) rfl
    rwa [World.size_alloc] at this
  have Bx := below2 w (.cells #[.int .u64 (wd a 0), .int .u64 (wd a 1), .int .u64 (wd a 2), .int .u64 (wd a 3)] 25) (.cells #[] 25)
  have src1 := (HC.out.below Bx (by simp; omega : w.heap.size ≤ ((w.alloc (.cells #[.int .u64 (wd a 0), .int .u64 (wd a 1), .int .u64 (wd a 2), .int .u64 (wd a 3)] 25)).alloc (.cells #[] 25)).heap.size)).src (ccells_length ss)
  have O1 := Lib.hid own1
  have S1 := Lib.hid src1
  clear own1 src1
  go_wp2_with (first
    | (at_builtin; refine wpList_append_copy _ rfl _ _ 41 rfl w.heap.size 25 i0 (.agg #[.int .u64 0, .int .u64 0, .int .u64 0, .int .u64 0]) 4 32 Tryd.underlying41 hi hz0 hz1 hz2 rfl (by decide) _ _ _ rfl O1.out _ rfl ss.length (ccells ss) (ccells_length ss) S1.out (ccells_one ss) (by omega) (by omega) (by simp; omega) ?_; intro v1 w1 hv1 hg1; have B2 := Bx.grown hg1 (by simp; omega) (fun r e => by cases e; exact Nat.le_succ _); have bA := ((Blk.new w #[.int .u64 (wd a 0), .int .u64 (wd a 1), .int .u64 (wd a 2), .int .u64 (wd a 3)] 25).alloc (.cells #[] 25)); have bA1 : Blk w1 w.heap.size #[.int .u64 (wd a 0), .int .u64 (wd a 1), .int .u64 (wd a 2), .int .u64 (wd a 3)] 25 := (hg1.block _ bA.lt (by show some w.heap.size ≠ some (w.heap.size + 1); simp)).trans bA; have hcl : ClsAt w1 w1.heap.size v1 ss := ClsAt.of_owns (by simpa using hv1); have HCL := Lib.hid hcl; have HB2 := Lib.hid B2; have HA1 := Lib.hid bA1; clear hv1 hg1 bA bA1 hcl B2)
    | (at_builtin; refine wpList_append_copy _ rfl _ _ 30 rfl w.heap.size 38 i1 (.agg #[.int .u8 0, .int .u8 0]) 2 2 Tryd.underlying30 hj hy0 hy1 hy2 rfl (by decide) _ _ _ rfl (World.ownsRow_made (base := w.heap.size) (e := 38) (size := 2) w1 #[] 0 HB2.out.size (by unfold maxLen; omega) rfl) _ rfl rs.length (rcells rs) (rcells_length rs) ((HR.out.below (HB2.out.alloc HB2.out.size _) (by have := HB2.out.size; simp; omega)).src (rcells_length rs)) (rcells_onec rs) (by omega) (by omega) (by have := HB2.out.size; simp; omega) ?_; intro v2 w2 hv2 hg2; have B12 := ((Below.refl w1.heap.size w1).alloc (Nat.le_refl _) (.cells #[] 38)).grown hg2 (by simp) (fun r e => by cases e; exact Nat.le_refl _); have hru : RunsAt w2 w2.heap.size v2 rs := RunsAt.of_owns (by simpa using hv2); have HRU := Lib.hid hru; have HCL2 := Lib.hid (HCL.out.below B12 B12.size); have HB3 := Lib.hid (HB2.out.trans (B12.mono HB2.out.size)); have HA2 := Lib.hid (HA1.out.below B12 HA1.out.lt); clear hv2 hg2 hru B12))
  have HC0 := Lib.hid ((HC.out.below HB3.out HB3.out.size).cls hnl)
  have HR0 := Lib.hid ((HR.out.below HB3.out HB3.out.size).runs hnr)
  have bA := HA2.out
  refine wp_region_lay [some (.is (.agg #[.int .u64 (wd a 0), .int .u64 (wd a 1), .int .u64 (wd a 2), .int .u64 (wd a 3)])), some (.is (.agg #[.int .u64 (wd ((fun i => !a i)) 0), .int .u64 (wd ((fun i => !a i)) 1), .int .u64 (wd ((fun i => !a i)) 2), .int .u64 (wd ((fun i => !a i)) 3)])), some (.is (.agg #[.int .u64 (wd a 0), .int .u64 (wd a 1), .int .u64 (wd a 2), .int .u64 (wd a 3)])), some (.is (.agg #[.int .u64 (wd ((fun i => !a i)) 0), .int .u64 (wd ((fun i => !a i)) 1), .int .u64 (wd ((fun i => !a i)) 2), .int .u64 (wd ((fun i => !a i)) 3)])), some (.is (.bool true)), some (.is (.bool true)), some ((.is (v1))), some (.is (.agg #[.int .u64 (wd ((anyS ss)) 0), .int .u64 (wd ((anyS ss)) 1), .int .u64 (wd ((anyS ss)) 2), .int .u64 (wd ((anyS ss)) 3)])), some ((.is (.slice ac ss.length cc))), some (.is (.agg #[.int .u64 (wd ((anyS ss)) 0), .int .u64 (wd ((anyS ss)) 1), .int .u64 (wd ((anyS ss)) 2), .int .u64 (wd ((anyS ss)) 3)])), some (.is (.bool true)), some (.is (.bool true)), some (.is (.bool true)), some ((.is (v1))), some (.is (.agg #[.int .u64 (wd ((allS ss)) 0), .int .u64 (wd ((allS ss)) 1), .int .u64 (wd ((allS ss)) 2), .int .u64 (wd ((allS ss)) 3)])), some ((.is (.slice ac ss.length cc))), some (.is (.agg #[.int .u64 (wd ((allS ss)) 0), .int .u64 (wd ((allS ss)) 1), .int .u64 (wd ((allS ss)) 2), .int .u64 (wd ((allS ss)) 3)])), some (.is (.bool true)), some (.is (.bool true)), some (.is (.bool true)), some ((.is (v2))), some (.is (.agg #[.int .u64 (wd ((fromS rs)) 0), .int .u64 (wd ((fromS rs)) 1), .int .u64 (wd ((fromS rs)) 2), .int .u64 (wd ((fromS rs)) 3)])), some ((.is (.slice ar rs.length cr))), some (.is (.agg #[.int .u64 (wd ((fromS rs)) 0), .int .u64 (wd ((fromS rs)) 1), .int .u64 (wd ((fromS rs)) 2), .int .u64 (wd ((fromS rs)) 3)])), some (.is (.bool true)), some (.is (.bool true)), some (.is (.bool true))] (fun f => #[.agg #[.int .u64 (wd a 0), .int .u64 (wd a 1), .int .u64 (wd a 2), .int .u64 (wd a 3)], .slice ac ss.length cc, .slice ar rs.length cr, .pointer (some ⟨w.heap.size, 0, none⟩), undef, undef, .bool false, v1, v2, f 9, undef, undef, .slice ac ss.length cc, .int .i64 ss.length, .slice ar rs.length cr, .int .i64 rs.length, .int .i64 ((ss.length : Int) + (rs.length : Int)), .bool false, undef, .slice (some ⟨w.heap.size + 1, 0, none⟩) 0 0, .slice ac ss.length cc, v1, .slice (some ⟨w1.heap.size, 0, none⟩) 0 0, .slice ar rs.length cr, v2, f 25, f 26, f 27, f 28, f 29, f 30, f 31, f 32, f 33, f 34, f 35, f 36, f 37, f 38, f 39, f 40, f 41, f 42, f 43, f 44, f 45, f 46, f 47, f 48, f 49, f 50, undef, undef, undef, undef, undef, undef, undef, undef, undef, undef, undef, undef, undef, undef, undef, undef, undef, undef, undef, undef, undef, undef, undef, undef, undef, undef, undef, undef, undef, undef, undef, undef, undef, undef, undef, undef, undef, undef, undef, undef]) (by kernel_rfl) (by kernel_rfl) (by kernel_rfl) (by kernel_rfl) (fun f => by kernel_rfl)
    ⟨by
      intro _ act W hS hun hd
      exact g_load4 rfl (hun 3 (by kernel_rfl)) (bA.below hS bA.lt) rfl,
    by
      intro _ act W hS hun hd
      have h25 : act.eval (.tmp 25) = .agg #[.int .u64 (wd a 0), .int .u64 (wd a 1), .int .u64 (wd a 2), .int .u64 (wd a 3)] := hd 0 _ 25 rfl rfl (by kernel_rfl)
      exact g_call (f := 24) rfl (enters_of Tryd.func24 (by kernel_rfl) rfl) (by simp only [List.map_toArray, List.map_cons, List.map_nil, h25]) (not_as a (fun i => !a i) (fun _ _ => rfl) W),
    by
      intro _ act W hS hun hd
      exact g_load4 rfl (hun 3 (by kernel_rfl)) (bA.below hS bA.lt) rfl,
    by
      intro _ act W hS hun hd
      have h27 : act.eval (.tmp 27) = .agg #[.int .u64 (wd a 0), .int .u64 (wd a 1), .int .u64 (wd a 2), .int .u64 (wd a 3)] := hd 2 _ 27 rfl rfl (by kernel_rfl)
      exact g_call (f := 25) rfl (enters_of Tryd.func25 (by kernel_rfl) rfl) (by simp only [List.map_toArray, List.map_cons, List.map_nil, h27]) ((rnot_any a W).mono fun _ _ ⟨he, hb⟩ => ⟨_, he, hb, rfl⟩),
    by
      intro _ act W hS hun hd
      have h26 : act.eval (.tmp 26) = .agg #[.int .u64 (wd ((fun i => !a i)) 0), .int .u64 (wd ((fun i => !a i)) 1), .int .u64 (wd ((fun i => !a i)) 2), .int .u64 (wd ((fun i => !a i)) 3)] := hd 1 _ 26 rfl rfl (by kernel_rfl)
      have h28 : act.eval (.tmp 28) = .agg #[.int .u64 (wd ((fun i => !a i)) 0), .int .u64 (wd ((fun i => !a i)) 1), .int .u64 (wd ((fun i => !a i)) 2), .int .u64 (wd ((fun i => !a i)) 3)] := hd 3 _ 28 rfl rfl (by kernel_rfl)
      exact g_eql25 rfl h26 h28 rfl,
    by
      intro _ act W hS hun hd
      have h29 : act.eval (.tmp 29) = .bool true := hd 4 _ 29 rfl rfl (by kernel_rfl)
      exact g_move rfl h29,
    by
      intro _ act W hS hun hd
      exact g_move rfl (hun 7 (by kernel_rfl)),
    by
      intro _ act W hS hun hd
      have h31 : act.eval (.tmp 31) = v1 := hd 6 _ 31 rfl rfl (by kernel_rfl)
      exact g_call (f := 26) rfl (enters_of Tryd.func26 (by kernel_rfl) rfl) (by simp only [List.map_toArray, List.map_cons, List.map_nil, h31]) ((orf_any v1 ss W (HCL2.out.below hS hS.size)).mono fun _ _ ⟨he, hb⟩ => ⟨_, he, hb, rfl⟩),
    by
      intro _ act W hS hun hd
      exact g_move rfl (hun 1 (by kernel_rfl)),
    by
      intro _ act W hS hun hd
      have h33 : act.eval (.tmp 33) = .slice ac ss.length cc := hd 8 _ 33 rfl rfl (by kernel_rfl)
      exact g_call (f := 27) rfl (enters_of Tryd.func27 (by kernel_rfl) rfl) (by simp only [List.map_toArray, List.map_cons, List.map_nil, h33]) ((ror_any _ ss W (HC0.out.below hS hS.size)).mono fun _ _ ⟨he, hb⟩ => ⟨_, he, hb, rfl⟩),
    by
      intro _ act W hS hun hd
      have h32 : act.eval (.tmp 32) = .agg #[.int .u64 (wd ((anyS ss)) 0), .int .u64 (wd ((anyS ss)) 1), .int .u64 (wd ((anyS ss)) 2), .int .u64 (wd ((anyS ss)) 3)] := hd 7 _ 32 rfl rfl (by kernel_rfl)
      have h34 : act.eval (.tmp 34) = .agg #[.int .u64 (wd ((anyS ss)) 0), .int .u64 (wd ((anyS ss)) 1), .int .u64 (wd ((anyS ss)) 2), .int .u64 (wd ((anyS ss)) 3)] := hd 9 _ 34 rfl rfl (by kernel_rfl)
      exact g_eql25 rfl h32 h34 rfl,
    by
      intro _ act W hS hun hd
      have h30 : act.eval (.tmp 30) = .bool true := hd 5 _ 30 rfl rfl (by kernel_rfl)
      have h35 : act.eval (.tmp 35) = .bool true := hd 10 _ 35 rfl rfl (by kernel_rfl)
      exact g_pick rfl h30 h35 rfl,
    by
      intro _ act W hS hun hd
      have h36 : act.eval (.tmp 36) = .bool true := hd 11 _ 36 rfl rfl (by kernel_rfl)
      exact g_move rfl h36,
    by
      intro _ act W hS hun hd
      exact g_move rfl (hun 7 (by kernel_rfl)),
    by
      intro _ act W hS hun hd
      have h38 : act.eval (.tmp 38) = v1 := hd 13 _ 38 rfl rfl (by kernel_rfl)
      exact g_call (f := 28) rfl (enters_of Tryd.func28 (by kernel_rfl) rfl) (by simp only [List.map_toArray, List.map_cons, List.map_nil, h38]) ((andf_any v1 ss W (HCL2.out.below hS hS.size)).mono fun _ _ ⟨he, hb⟩ => ⟨_, he, hb, rfl⟩),
    by
      intro _ act W hS hun hd
      exact g_move rfl (hun 1 (by kernel_rfl)),
    by
      intro _ act W hS hun hd
      have h40 : act.eval (.tmp 40) = .slice ac ss.length cc := hd 15 _ 40 rfl rfl (by kernel_rfl)
      exact g_call (f := 29) rfl (enters_of Tryd.func29 (by kernel_rfl) rfl) (by simp only [List.map_toArray, List.map_cons, List.map_nil, h40]) ((rand_any _ ss W (HC0.out.below hS hS.size)).mono fun _ _ ⟨he, hb⟩ => ⟨_, he, hb, rfl⟩),
    by
      intro _ act W hS hun hd
      have h39 : act.eval (.tmp 39) = .agg #[.int .u64 (wd ((allS ss)) 0), .int .u64 (wd ((allS ss)) 1), .int .u64 (wd ((allS ss)) 2), .int .u64 (wd ((allS ss)) 3)] := hd 14 _ 39 rfl rfl (by kernel_rfl)
      have h41 : act.eval (.tmp 41) = .agg #[.int .u64 (wd ((allS ss)) 0), .int .u64 (wd ((allS ss)) 1), .int .u64 (wd ((allS ss)) 2), .int .u64 (wd ((allS ss)) 3)] := hd 16 _ 41 rfl rfl (by kernel_rfl)
      exact g_eql25 rfl h39 h41 rfl,
    by
      intro _ act W hS hun hd
      have h37 : act.eval (.tmp 37) = .bool true := hd 12 _ 37 rfl rfl (by kernel_rfl)
      have h42 : act.eval (.tmp 42) = .bool true := hd 17 _ 42 rfl rfl (by kernel_rfl)
      exact g_pick rfl h37 h42 rfl,
    by
      intro _ act W hS hun hd
      have h43 : act.eval (.tmp 43) = .bool true := hd 18 _ 43 rfl rfl (by kernel_rfl)
      exact g_move rfl h43,
    by
      intro _ act W hS hun hd
      exact g_move rfl (hun 8 (by kernel_rfl)),
    by
      intro _ act W hS hun hd
      have h45 : act.eval (.tmp 45) = v2 := hd 20 _ 45 rfl rfl (by kernel_rfl)
      exact g_call (f := 30) rfl (enters_of Tryd.func30 (by kernel_rfl) rfl) (by simp only [List.map_toArray, List.map_cons, List.map_nil, h45]) ((from_any rs v2 W (HRU.out.below hS hS.size) HS.out).mono fun _ _ ⟨he, hb⟩ => ⟨_, he, hb, rfl⟩),
    by
      intro _ act W hS hun hd
      exact g_move rfl (hun 2 (by kernel_rfl)),
    by
      intro _ act W hS hun hd
      have h47 : act.eval (.tmp 47) = .slice ar rs.length cr := hd 22 _ 47 rfl rfl (by kernel_rfl)
      exact g_call (f := 31) rfl (enters_of Tryd.func31 (by kernel_rfl) rfl) (by simp only [List.map_toArray, List.map_cons, List.map_nil, h47]) ((rfrom_any rs _ W (HR0.out.below hS hS.size) HS.out (by omega)).mono fun _ _ ⟨he, hb⟩ => ⟨_, he, hb, rfl⟩),
    by
      intro _ act W hS hun hd
      have h46 : act.eval (.tmp 46) = .agg #[.int .u64 (wd ((fromS rs)) 0), .int .u64 (wd ((fromS rs)) 1), .int .u64 (wd ((fromS rs)) 2), .int .u64 (wd ((fromS rs)) 3)] := hd 21 _ 46 rfl rfl (by kernel_rfl)
      have h48 : act.eval (.tmp 48) = .agg #[.int .u64 (wd ((fromS rs)) 0), .int .u64 (wd ((fromS rs)) 1), .int .u64 (wd ((fromS rs)) 2), .int .u64 (wd ((fromS rs)) 3)] := hd 23 _ 48 rfl rfl (by kernel_rfl)
      exact g_eql25 rfl h46 h48 rfl,
    by
      intro _ act W hS hun hd
      have h44 : act.eval (.tmp 44) = .bool true := hd 19 _ 44 rfl rfl (by kernel_rfl)
      have h49 : act.eval (.tmp 49) = .bool true := hd 24 _ 49 rfl rfl (by kernel_rfl)
      exact g_pick rfl h44 h49 rfl,
    by
      intro _ act W hS hun hd
      have h50 : act.eval (.tmp 50) = .bool true := hd 25 _ 50 rfl rfl (by kernel_rfl)
      exact g_assign rfl h50,
    trivial⟩ ?_
  intro f W hW hf
  have h9 : f 9 = .bool true := hf 26 _ 9 rfl rfl
  rw [h9]
  have HW := Lib.hid hW
  clear hf hW bA
  go_wp2
  go_loopw [9, 10] (fun o i wr => ∃ k : Nat, k ≤ ss.length ∧ i = .int .i64 k ∧ o = .bool true ∧ Below W.heap.size W wr) (fun _ i _ => ss.length - (intOf i).toNat)
  case atStart => exact ⟨0, by omega, rfl, rfl, Below.refl _ _⟩
  case round =>
    obtain ⟨k, hk, rfl, rfl, hbl⟩ := hrel
    have HBL := Lib.hid hbl
    clear hbl
    by_cases hlt : k < ss.length
    · have hi1 : (k : Int) < (ss.length : Int) := by omega
      have hdk : decide ((k : Int) < (ss.length : Int)) = true := by simp; omega
      have HBW := Lib.hid (HW.out.trans (HBL.out.mono HW.out.size))
      obtain ⟨a1, q1, e1, _, g1⟩ := (HCL2.out.below HBW.out HBW.out.size).slice
      obtain ⟨b1, o1, rfl, _, h1⟩ := g1 (by omega)
      obtain ⟨a2, q2, e2, _, g2⟩ := (HC0.out.below HBW.out HBW.out.size).slice
      obtain ⟨b2, o2, rfl, _, h2⟩ := g2 (by omega)
      have c0 := h1 k hlt 0 (by decide); have c1 := h1 k hlt 1 (by decide); have c2 := h1 k hlt 2 (by decide); have c3 := h1 k hlt 3 (by decide)
      have d0 := h2 k hlt 0 (by decide); have d1 := h2 k hlt 1 (by decide); have d2 := h2 k hlt 2 (by decide); have d3 := h2 k hlt 3 (by decide)
      rw [Nat.add_zero] at c0 d0
      obtain ⟨t, hte⟩ : ∃ t, t = getS ss k := ⟨_, rfl⟩
      rw [← hte] at c0 c1 c2 c3 d0 d1 d2 d3
      clear hte h1 h2 g1 g2
      obtain ⟨rfl, rfl⟩ : ac = some ⟨b2, o2, none⟩ ∧ cc = q2 := by simp at e2; exact e2
      subst e1
      clear e2
      go_wp2
      go_quiet (fail)
      go_wp2
      go_roundw
      case rel => exact ⟨k + 1, by omega, by go_num, rfl, bdrew HBL.out⟩
      case measure => simp [intOf]; omega
    · obtain rfl : k = ss.length := by omega
      go_wp2
      obtain ⟨wo, rfl⟩ : ∃ wo : World, wo = wr := ⟨_, rfl⟩
      go_loopw [9, 11] (fun o i wr => ∃ k : Nat, k ≤ rs.length ∧ i = .int .i64 k ∧ o = .bool true ∧ Below wo.heap.size wo wr) (fun _ i _ => rs.length - (intOf i).toNat)
      case atStart => exact ⟨0, by omega, rfl, rfl, Below.refl _ _⟩
      case round =>
        obtain ⟨k, hk, rfl, rfl, hbl⟩ := hrel
        have HBL2 := Lib.hid hbl
        clear hbl
        have HBW := Lib.hid ((HW.out.trans (HBL.out.mono HW.out.size)).trans (HBL2.out.mono (HW.out.trans (HBL.out.mono HW.out.size)).size))
        by_cases hlt : k < rs.length
        · have hi1 : (k : Int) < (rs.length : Int) := by omega
          have hdk : decide ((k : Int) < (rs.length : Int)) = true := by simp; omega
          obtain ⟨a1, q1, e1, _, g1⟩ := HRU.out.below HBW.out HBW.out.size
          obtain ⟨b1, o1, rfl, _, h1⟩ := g1 (by omega)
          obtain ⟨a2, q2, e2, _, g2⟩ := HR0.out.below HBW.out HBW.out.size
          obtain ⟨b2, o2, rfl, _, h2⟩ := g2 (by omega)
          have c0 := (h1 (k * 2) (by omega)).trans (rcells_at rs k hlt).1
          have c1 := (h1 (k * 2 + 1) (by omega)).trans (rcells_at rs k hlt).2
          have d0 := (h2 (k * 2) (by omega)).trans (rcells_at rs k hlt).1
          have d1 := (h2 (k * 2 + 1) (by omega)).trans (rcells_at rs k hlt).2
          rw [← Nat.add_assoc] at c1 d1
          obtain ⟨x, hx⟩ : ∃ x, x = (rget rs k).1 := ⟨_, rfl⟩
          obtain ⟨y, hy⟩ : ∃ y, y = (rget rs k).2 := ⟨_, rfl⟩
          rw [← hx] at c0 d0
          rw [← hy] at c1 d1
          clear hx hy h1 h2 g1 g2
          obtain ⟨rfl, rfl⟩ : ar = some ⟨b2, o2, none⟩ ∧ cr = q2 := by simp at e2; exact e2
          subst e1
          clear e2
          go_wp2
          go_quiet (fail)
          go_wp2
          go_roundw
          case rel => exact ⟨k + 1, by omega, by go_num, rfl, bdrew HBL2.out⟩
          case measure => simp [intOf]; omega
        · obtain rfl : k = rs.length := by omega
          go_wp2_with (go_at_call 8; (with_reducible refine (awake_any _ (HT.out.below (HB3.out.trans (HBW.out.mono HB3.out.size)))).mono ?_); rintro e w9 ⟨rfl, hb9⟩)
          go_ret
          exact ⟨rfl, (HB3.out.trans (HBW.out.mono HB3.out.size)).trans (hb9.mono (HB3.out.trans (HBW.out.mono HB3.out.size)).size)⟩
end Go.Proofs.YtcnikeeapillnaaDoor

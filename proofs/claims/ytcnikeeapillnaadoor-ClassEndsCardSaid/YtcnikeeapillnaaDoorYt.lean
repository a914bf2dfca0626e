/- The law ClassTells, walked. -/
import Derived.Test.YtcnikeeapillnaaDoorYk
import Derived.Test.YtcnikeeapillnaaDoorYr
import Derived.Test.YtcnikeeapillnaaDoorRp
import Derived.Test.YtcnikeeapillnaaDoorWh
namespace Go.Proofs.YtcnikeeapillnaaDoor
open Go Go.RowKit
theorem own_below {w w' : World} {base e size n : Nat} {v : Value} {xs : List Value} (h : w.ownsRow base e size v n xs) (hb : Below w.heap.size w w') : w'.ownsRow base e size v n xs := ownsRow_below h hb
/-- A value that reads as runs. -/
def runsSt (rs : List (Nat × Nat)) : Stay := ⟨fun v w => RunsAt w w.heap.size v rs, fun _ _ _ hb h => h.below hb hb.size⟩
section
variable {a : Act} {w : World} {o : Oper} {Φ : Value → World → Prop}
theorem g_eql3 {x y : Operand} {t : TypeId} {m : Int} (ho : o.op = .binOp .eql 3 x y t) (hx : a.eval x = .int .i64 m) (hy : a.eval y = .int .i64 m) (h : Φ (.bool true) w) :
    Gives Tryd.prog (fun v w' => Below w.heap.size w w' ∧ Φ v w') ((execOp a.eval o).run Tryd.prog w) := by
  refine .value (v := .bool true) (w := w) ?_ ⟨Below.refl _ _, h⟩
  generalize a.eval = ρ at *
  simp only [execOp, ho, hx, hy]
  go_simp
theorem g_eql5 {x y : Operand} {t : TypeId} {m : Int} (ho : o.op = .binOp .eql 5 x y t) (hx : a.eval x = .int .u8 m) (hy : a.eval y = .int .u8 m) (h : Φ (.bool true) w) :
    Gives Tryd.prog (fun v w' => Below w.heap.size w w' ∧ Φ v w') ((execOp a.eval o).run Tryd.prog w) := by
  refine .value (v := .bool true) (w := w) ?_ ⟨Below.refl _ _, h⟩
  generalize a.eval = ρ at *
  simp only [execOp, ho, hx, hy]
  go_simp
theorem g_eql4 {x y : Operand} {t : TypeId} {m : Bool} (ho : o.op = .binOp .eql 4 x y t) (hx : a.eval x = .bool m) (hy : a.eval y = .bool m) (h : Φ (.bool true) w) :
    Gives Tryd.prog (fun v w' => Below w.heap.size w w' ∧ Φ v w') ((execOp a.eval o).run Tryd.prog w) := by
  refine .value (v := .bool true) (w := w) ?_ ⟨Below.refl _ _, h⟩
  generalize a.eval = ρ at *
  simp only [execOp, ho, hx, hy]
  go_simp
end
theorem of_lent (g cap : Nat) (l : List Nat) (W : World) (hl : l.length ≤ 60000) (hb : ∀ x ∈ l, x < 256) (h : Lent W g l) :
    Calls Tryd.prog 13 #[.slice (some ⟨g, 0, none⟩) l.length cap] W fun e w' => e = .returned (.agg #[.int .u64 (wd (mem l) 0), .int .u64 (wd (mem l) 1), .int .u64 (wd (mem l) 2), .int .u64 (wd (mem l) 3)]) ∧ Below W.heap.size W w' :=
  of_cells g 0 cap l W (by unfold maxLen; omega) (fun j hj => by
    have := hb (l.getD j 0) (by rw [getD_of hj]; exact List.getElem_mem hj)
    rwa [List.getD_eq_getElem?_getD] at this) h.1 (fun j hj => by
    rw [Nat.zero_add, h.2 j (by omega), lent_text hj, List.getD_eq_getElem?_getD])
theorem rof_txt (A : Option Addr) (c : Nat) (l : List Nat) (W : World) (hl : l.length ≤ 60000) (h : Txt W A l) :
    Calls Tryd.prog 14 #[.slice A l.length c] W fun e w' => e = .returned (.agg #[.int .u64 (wd (mem l) 0), .int .u64 (wd (mem l) 1), .int .u64 (wd (mem l) 2), .int .u64 (wd (mem l) 3)]) ∧ Below W.heap.size W w' :=
  rof_cells A c l W (by unfold maxLen; omega) (fun j hj => by
    have := h.1 (l.getD j 0) (by rw [getD_of hj]; exact List.getElem_mem hj)
    rwa [List.getD_eq_getElem?_getD] at this) (fun h0 => by
    obtain ⟨b, o, e, hl, hc⟩ := h.2 h0
    exact ⟨b, o, e, hl, fun j hj => by rw [hc j hj, List.getD_eq_getElem?_getD]⟩)
theorem rruns_at (s : Nat → Bool) (rs : List (Nat × Nat)) (hrs : runsOf (elems s 256) = rs) (W : World) :
    Calls Tryd.prog 22 #[.agg #[.int .u64 (wd s 0), .int .u64 (wd s 1), .int .u64 (wd s 2), .int .u64 (wd s 3)]] W fun e w' => ∃ v, e = .returned v ∧ Below W.heap.size W w' ∧ RunsAt w' w'.heap.size v rs := by
  subst hrs
  exact (rruns_any s W).mono fun e w' ⟨v, he, ho, hb⟩ => ⟨v, he, hb, RunsAt.of_owns ho⟩
theorem runs_ret (s : Nat → Bool) (rs : List (Nat × Nat)) (hrs : runsOf (elems s 256) = rs) (W : World) (hT : Tab W) :
    Calls Tryd.prog 12 #[.agg #[.int .u64 (wd s 0), .int .u64 (wd s 1), .int .u64 (wd s 2), .int .u64 (wd s 3)]] W fun e w' => ∃ v, e = .returned v ∧ Below W.heap.size W w' ∧ RunsAt w' w'.heap.size v rs := by
  subst hrs
  exact (runs_any s W hT).mono fun e w' ⟨v, he, ho, _, hb⟩ => ⟨v, he, hb, RunsAt.of_owns ho⟩
theorem bt {w0 w w' : World} (h : Below w0.heap.size w0 w) (h' : Below w.heap.size w w') : Below w0.heap.size w0 w' := h.trans (h'.mono h.size)
theorem grown_more {a b c : World} {row : Option Nat} (h : a.grownBy b row) (k : b.grownBy c row) : a.grownBy c row :=
  ⟨k.os.trans h.os, k.tape.trans h.tape, k.output.trans h.output, Nat.le_trans h.size k.size, fun i hi hne => (k.block i (Nat.lt_of_lt_of_le hi h.size) hne).trans (h.block i hi hne)⟩

set_option maxRecDepth 100000 in
set_option maxHeartbeats 2000000 in
theorem tells_long (A : Option Addr) (nl c : Nat) (s : Nat → Bool) (a b n : Int) (w : World) (hT : Tab w) (hl : 400 < nl) (hm : nl ≤ 9223372036854775807) :
    Calls Tryd.prog 3 #[.slice A nl c, .agg #[.int .u64 (wd s 0), .int .u64 (wd s 1), .int .u64 (wd s 2), .int .u64 (wd s 3)], .int .u8 a, .int .u8 b, .int .i64 n] w fun e w' => e = .returned (.bool true) ∧ Below w.heap.size w w' := by
  have HT := Lib.hid hT
  clear hT
  go_enter Tryd.func3, Tryd.ntmps3
  go_wp2_with fail
  refine (awake_any _ (HT.out.below ((Below.refl _ _).alloc (Nat.le_refl _) _))).mono ?_
  rintro e w1 ⟨rfl, hb⟩
  go_wp2_with fail
  go_ret
  exact ⟨rfl, ((Below.refl _ _).alloc (Nat.le_refl _) _).trans (hb.mono (by simp))⟩

set_option maxRecDepth 100000 in
set_option maxHeartbeats 4000000 in
theorem tells_any (A : Option Addr) (l : List Nat) (c : Nat) (s : Nat → Bool) (a b : Nat) (n : Int) (w : World) (hT : Tab w) (hl : l.length ≤ 400) (ha : a < 256) (hb0 : b < 256) (hnc : A = none → c = 0) (h : Txt w A l) :
    Calls Tryd.prog 3 #[.slice A l.length c, .agg #[.int .u64 (wd s 0), .int .u64 (wd s 1), .int .u64 (wd s 2), .int .u64 (wd s 3)], .int .u8 a, .int .u8 b, .int .i64 n] w fun e w' => e = .returned (.bool true) ∧ Below w.heap.size w w' := by
  have HT := Lib.hid hT
  have HN := Lib.hid hnc
  have HTx := Lib.hid h
  have HBY := Lib.hid h.1
  have HC0 := Lib.hid (Blk.new w #[.int .u64 (wd s 0), .int .u64 (wd s 1), .int .u64 (wd s 2), .int .u64 (wd s 3)] 25)
  have HB0 : Hid (Below w.heap.size w (w.alloc (.cells #[.int .u64 (wd s 0), .int .u64 (wd s 1), .int .u64 (wd s 2), .int .u64 (wd s 3)] 25))) := (Below.refl _ _).alloc (Nat.le_refl _) _
  clear hT h hnc
  go_enter Tryd.func3, Tryd.ntmps3
  go_wp2_with fail
  refine (lent_any A l c (by omega) HN.out _ (HTx.out.below HB0.out)).mono ?_
  rintro e w1 ⟨⟨g, cap, rfl, hg, hown⟩, hb1⟩
  obtain ⟨hlent, hc1, hc2⟩ := Lent.of_own hown
  have hc3 : cap ≤ 9223372036854775807 := hc2
  have HL1 := Lib.hid hlent
  have HC1 := Lib.hid (HC0.out.below hb1 HC0.out.lt)
  have HB1 := Lib.hid (bt HB0.out hb1)
  obtain ⟨⟨c0, c1, c2, c3⟩, _⟩ := HC1.out.four
  clear hown hlent hc2 hb1 HC0 HB0
  have hgw : w.heap.size + 1 ≤ g := by simpa using hg
  clear hg
  go_wp2_with fail
  refine (next_any s n w1 (HT.out.below HB1.out)).mono ?_
  rintro e w2 ⟨rfl, hb2⟩
  have HL2 := Lib.hid (HL1.out.below hb2)
  have HC2 := Lib.hid (HC1.out.below hb2 HC1.out.lt)
  have HB2 := Lib.hid (bt HB1.out hb2)
  clear c0 c1 c2 c3 hb2 HL1 HC1 HB1
  obtain ⟨⟨c0, c1, c2, c3⟩, _⟩ := HC2.out.four
  go_wp2_with fail
  refine (rnext_any s n w2).mono ?_
  rintro e w3 ⟨rfl, hb3⟩
  have HL3 := Lib.hid (HL2.out.below hb3)
  have HC3 := Lib.hid (HC2.out.below hb3 HC2.out.lt)
  have HB3 := Lib.hid (bt HB2.out hb3)
  clear c0 c1 c2 c3 hb3 HL2 HC2 HB2
  obtain ⟨⟨c0, c1, c2, c3⟩, _⟩ := HC3.out.four
  obtain ⟨rs, ers⟩ : ∃ rs, runsOf (elems s 256) = rs := ⟨_, rfl⟩
  have ERS := Lib.hid ers
  have hrl := runsOf_length (elems s 256)
  have hel := elems_le s 256
  rw [ers] at hrl
  go_wp2_with fail
  refine (runs_at s rs rs.length ERS.out rfl w3 (HT.out.below HB3.out)).mono ?_
  rintro e w4 ⟨ao, rc, rfl, hro, hb4⟩
  have HL := Lib.hid (HL3.out.below hb4)
  have HC := Lib.hid (HC3.out.below hb4 HC3.out.lt)
  have HB4 := Lib.hid (bt HB3.out hb4)
  have HRO := Lib.hid hro
  have HRU := Lib.hid (RunsAt.of_owns hro)
  have HTX := Lib.hid (HTx.out.below HB4.out)
  have hg3 := HL3.out.1
  have hx3 := HC3.out.lt
  clear c0 c1 c2 c3 hro hb4 ers HL3 HC3 HB3
  go_wp2_with fail
  refine wp_region_puts [some (.is (.slice (some ⟨g, 0, none⟩) l.length cap)), some (.is (.agg #[.int .u64 (wd (mem l) 0), .int .u64 (wd (mem l) 1), .int .u64 (wd (mem l) 2), .int .u64 (wd (mem l) 3)])), some (.is (.slice A l.length c)), some (.is (.agg #[.int .u64 (wd (mem l) 0), .int .u64 (wd (mem l) 1), .int .u64 (wd (mem l) 2), .int .u64 (wd (mem l) 3)])), some (.is (.bool true)), some (.is (.bool true)), some (.is (.int .u8 (a : Int))), some (.is (.int .u8 (b : Int))), some (.is (.agg #[.int .u64 (wd (rng a (b + 1)) 0), .int .u64 (wd (rng a (b + 1)) 1), .int .u64 (wd (rng a (b + 1)) 2), .int .u64 (wd (rng a (b + 1)) 3)])), some (.is (.int .u8 (a : Int))), some (.is (.int .u8 (b : Int))), some (.is (.agg #[.int .u64 (wd (rng a (b + 1)) 0), .int .u64 (wd (rng a (b + 1)) 1), .int .u64 (wd (rng a (b + 1)) 2), .int .u64 (wd (rng a (b + 1)) 3)])), some (.is (.bool true)), some (.is (.bool true)), some (.is (.bool true)), some (.is (.agg #[.int .u64 (wd (s) 0), .int .u64 (wd (s) 1), .int .u64 (wd (s) 2), .int .u64 (wd (s) 3)])), some (.is (.int .u8 (a : Int))), some (.is (.bool (s a))), some (.is (.agg #[.int .u64 (wd (s) 0), .int .u64 (wd (s) 1), .int .u64 (wd (s) 2), .int .u64 (wd (s) 3)])), some (.is (.int .u8 (a : Int))), some (.is (.bool (s a))), some (.is (.bool true)), some (.is (.bool true)), some (.is (.bool true)), some (.is (.agg #[.int .u64 (wd (s) 0), .int .u64 (wd (s) 1), .int .u64 (wd (s) 2), .int .u64 (wd (s) 3)])), some (.is (.int .i64 (cntN s 256 : Int))), some (.is (.agg #[.int .u64 (wd (s) 0), .int .u64 (wd (s) 1), .int .u64 (wd (s) 2), .int .u64 (wd (s) 3)])), some (.is (.int .i64 (cntN s 256 : Int))), some (.is (.bool true)), some (.is (.bool true)), some (.is (.bool true)), some (.is (.int .u8 (nextB s n : Int))), some (.is (.int .u8 (nextB s n : Int))), some (.is (.bool true)), some (.is (.bool true)), some (.is (.bool true)), some (.is (.bool (nextOk s n))), some (.is (.bool (nextOk s n))), some (.is (.bool true)), some (.is (.bool true)), some (.is (.bool true)), some (.is (.slice ao rs.length rc)), some (.is (.agg #[.int .u64 (wd (s) 0), .int .u64 (wd (s) 1), .int .u64 (wd (s) 2), .int .u64 (wd (s) 3)])), some (.st (runsSt rs)), some (.is (.bool true)), some (.is (.bool true)), some (.is (.bool true))] (by kernel_rfl) (by kernel_rfl) (by kernel_rfl) (by kernel_rfl) ⟨by
    intro _ act W hS hun hd
    have h11 : act.eval (.tmp 11) = .slice (some ⟨g, 0, none⟩) l.length cap := hun 11 (by kernel_rfl)
    exact g_move rfl h11,
    by
    intro _ act W hS hun hd
    have h39 : act.eval (.tmp 39) = .slice (some ⟨g, 0, none⟩) l.length cap := hd 0 _ 39 rfl rfl (by kernel_rfl)
    exact g_call (f := 13) rfl (enters_of Tryd.func13 (by kernel_rfl) rfl) (by simp only [List.map_toArray, List.map_cons, List.map_nil, h39]) ((of_lent g cap l W (by omega) HBY.out (HL.out.below hS)).mono fun _ _ ⟨he, hb⟩ => ⟨_, he, hb, rfl⟩),
    by
    intro _ act W hS hun hd
    have h0 : act.eval (.tmp 0) = .slice A l.length c := hun 0 (by kernel_rfl)
    exact g_move rfl h0,
    by
    intro _ act W hS hun hd
    have h41 : act.eval (.tmp 41) = .slice A l.length c := hd 2 _ 41 rfl rfl (by kernel_rfl)
    exact g_call (f := 14) rfl (enters_of Tryd.func14 (by kernel_rfl) rfl) (by simp only [List.map_toArray, List.map_cons, List.map_nil, h41]) ((rof_txt A c l W (by omega) ((HTX.out).below hS)).mono fun _ _ ⟨he, hb⟩ => ⟨_, he, hb, rfl⟩),
    by
    intro _ act W hS hun hd
    have h40 : act.eval (.tmp 40) = .agg #[.int .u64 (wd (mem l) 0), .int .u64 (wd (mem l) 1), .int .u64 (wd (mem l) 2), .int .u64 (wd (mem l) 3)] := hd 1 _ 40 rfl rfl (by kernel_rfl)
    have h42 : act.eval (.tmp 42) = .agg #[.int .u64 (wd (mem l) 0), .int .u64 (wd (mem l) 1), .int .u64 (wd (mem l) 2), .int .u64 (wd (mem l) 3)] := hd 3 _ 42 rfl rfl (by kernel_rfl)
    exact g_eql25 rfl h40 h42 rfl,
    by
    intro _ act W hS hun hd
    have h43 : act.eval (.tmp 43) = .bool true := hd 4 _ 43 rfl rfl (by kernel_rfl)
    exact g_move rfl h43,
    by
    intro _ act W hS hun hd
    have h2 : act.eval (.tmp 2) = .int .u8 (a : Int) := hun 2 (by kernel_rfl)
    exact g_move rfl h2,
    by
    intro _ act W hS hun hd
    have h3 : act.eval (.tmp 3) = .int .u8 (b : Int) := hun 3 (by kernel_rfl)
    exact g_move rfl h3,
    by
    intro _ act W hS hun hd
    have h45 : act.eval (.tmp 45) = .int .u8 (a : Int) := hd 6 _ 45 rfl rfl (by kernel_rfl)
    have h46 : act.eval (.tmp 46) = .int .u8 (b : Int) := hd 7 _ 46 rfl rfl (by kernel_rfl)
    exact g_call (f := 15) rfl (enters_of Tryd.func15 (by kernel_rfl) rfl) (by simp only [List.map_toArray, List.map_cons, List.map_nil, h45, h46]) ((range_any a b W ha hb0).mono fun _ _ ⟨he, hb⟩ => ⟨_, he, hb, rfl⟩),
    by
    intro _ act W hS hun hd
    have h2 : act.eval (.tmp 2) = .int .u8 (a : Int) := hun 2 (by kernel_rfl)
    exact g_move rfl h2,
    by
    intro _ act W hS hun hd
    have h3 : act.eval (.tmp 3) = .int .u8 (b : Int) := hun 3 (by kernel_rfl)
    exact g_move rfl h3,
    by
    intro _ act W hS hun hd
    have h48 : act.eval (.tmp 48) = .int .u8 (a : Int) := hd 9 _ 48 rfl rfl (by kernel_rfl)
    have h49 : act.eval (.tmp 49) = .int .u8 (b : Int) := hd 10 _ 49 rfl rfl (by kernel_rfl)
    exact g_call (f := 16) rfl (enters_of Tryd.func16 (by kernel_rfl) rfl) (by simp only [List.map_toArray, List.map_cons, List.map_nil, h48, h49]) ((rrange_any a b W ha hb0).mono fun _ _ ⟨he, hb⟩ => ⟨_, he, hb, rfl⟩),
    by
    intro _ act W hS hun hd
    have h47 : act.eval (.tmp 47) = .agg #[.int .u64 (wd (rng a (b + 1)) 0), .int .u64 (wd (rng a (b + 1)) 1), .int .u64 (wd (rng a (b + 1)) 2), .int .u64 (wd (rng a (b + 1)) 3)] := hd 8 _ 47 rfl rfl (by kernel_rfl)
    have h50 : act.eval (.tmp 50) = .agg #[.int .u64 (wd (rng a (b + 1)) 0), .int .u64 (wd (rng a (b + 1)) 1), .int .u64 (wd (rng a (b + 1)) 2), .int .u64 (wd (rng a (b + 1)) 3)] := hd 11 _ 50 rfl rfl (by kernel_rfl)
    exact g_eql25 rfl h47 h50 rfl,
    by
    intro _ act W hS hun hd
    have h44 : act.eval (.tmp 44) = .bool true := hd 5 _ 44 rfl rfl (by kernel_rfl)
    have h51 : act.eval (.tmp 51) = .bool true := hd 12 _ 51 rfl rfl (by kernel_rfl)
    exact g_pick rfl h44 h51 rfl,
    by
    intro _ act W hS hun hd
    have h52 : act.eval (.tmp 52) = .bool true := hd 13 _ 52 rfl rfl (by kernel_rfl)
    exact g_move rfl h52,
    by
    intro _ act W hS hun hd
    exact g_load4 rfl (hun 6 (by kernel_rfl)) (HC.out.below hS HC.out.lt) rfl,
    by
    intro _ act W hS hun hd
    have h2 : act.eval (.tmp 2) = .int .u8 (a : Int) := hun 2 (by kernel_rfl)
    exact g_move rfl h2,
    by
    intro _ act W hS hun hd
    have h54 : act.eval (.tmp 54) = .agg #[.int .u64 (wd (s) 0), .int .u64 (wd (s) 1), .int .u64 (wd (s) 2), .int .u64 (wd (s) 3)] := hd 15 _ 54 rfl rfl (by kernel_rfl)
    have h55 : act.eval (.tmp 55) = .int .u8 (a : Int) := hd 16 _ 55 rfl rfl (by kernel_rfl)
    exact g_call (f := 17) rfl (enters_of Tryd.func17 (by kernel_rfl) rfl) (by simp only [List.map_toArray, List.map_cons, List.map_nil, h54, h55]) ((has_any s a W ha).mono fun _ _ ⟨he, hb⟩ => ⟨_, he, hb, rfl⟩),
    by
    intro _ act W hS hun hd
    exact g_load4 rfl (hun 6 (by kernel_rfl)) (HC.out.below hS HC.out.lt) rfl,
    by
    intro _ act W hS hun hd
    have h2 : act.eval (.tmp 2) = .int .u8 (a : Int) := hun 2 (by kernel_rfl)
    exact g_move rfl h2,
    by
    intro _ act W hS hun hd
    have h57 : act.eval (.tmp 57) = .agg #[.int .u64 (wd (s) 0), .int .u64 (wd (s) 1), .int .u64 (wd (s) 2), .int .u64 (wd (s) 3)] := hd 18 _ 57 rfl rfl (by kernel_rfl)
    have h58 : act.eval (.tmp 58) = .int .u8 (a : Int) := hd 19 _ 58 rfl rfl (by kernel_rfl)
    exact g_call (f := 18) rfl (enters_of Tryd.func18 (by kernel_rfl) rfl) (by simp only [List.map_toArray, List.map_cons, List.map_nil, h57, h58]) ((rhas_any s a W ha).mono fun _ _ ⟨he, hb⟩ => ⟨_, he, hb, rfl⟩),
    by
    intro _ act W hS hun hd
    have h56 : act.eval (.tmp 56) = .bool (s a) := hd 17 _ 56 rfl rfl (by kernel_rfl)
    have h59 : act.eval (.tmp 59) = .bool (s a) := hd 20 _ 59 rfl rfl (by kernel_rfl)
    exact g_eql4 rfl h56 h59 rfl,
    by
    intro _ act W hS hun hd
    have h53 : act.eval (.tmp 53) = .bool true := hd 14 _ 53 rfl rfl (by kernel_rfl)
    have h60 : act.eval (.tmp 60) = .bool true := hd 21 _ 60 rfl rfl (by kernel_rfl)
    exact g_pick rfl h53 h60 rfl,
    by
    intro _ act W hS hun hd
    have h61 : act.eval (.tmp 61) = .bool true := hd 22 _ 61 rfl rfl (by kernel_rfl)
    exact g_move rfl h61,
    by
    intro _ act W hS hun hd
    exact g_load4 rfl (hun 6 (by kernel_rfl)) (HC.out.below hS HC.out.lt) rfl,
    by
    intro _ act W hS hun hd
    have h63 : act.eval (.tmp 63) = .agg #[.int .u64 (wd (s) 0), .int .u64 (wd (s) 1), .int .u64 (wd (s) 2), .int .u64 (wd (s) 3)] := hd 24 _ 63 rfl rfl (by kernel_rfl)
    exact g_call (f := 19) rfl (enters_of Tryd.func19 (by kernel_rfl) rfl) (by simp only [List.map_toArray, List.map_cons, List.map_nil, h63]) ((len_any s W).mono fun _ _ ⟨he, hb⟩ => ⟨_, he, hb, rfl⟩),
    by
    intro _ act W hS hun hd
    exact g_load4 rfl (hun 6 (by kernel_rfl)) (HC.out.below hS HC.out.lt) rfl,
    by
    intro _ act W hS hun hd
    have h65 : act.eval (.tmp 65) = .agg #[.int .u64 (wd (s) 0), .int .u64 (wd (s) 1), .int .u64 (wd (s) 2), .int .u64 (wd (s) 3)] := hd 26 _ 65 rfl rfl (by kernel_rfl)
    exact g_call (f := 20) rfl (enters_of Tryd.func20 (by kernel_rfl) rfl) (by simp only [List.map_toArray, List.map_cons, List.map_nil, h65]) ((rlen_any s W).mono fun _ _ ⟨he, hb⟩ => ⟨_, he, hb, rfl⟩),
    by
    intro _ act W hS hun hd
    have h64 : act.eval (.tmp 64) = .int .i64 (cntN s 256 : Int) := hd 25 _ 64 rfl rfl (by kernel_rfl)
    have h66 : act.eval (.tmp 66) = .int .i64 (cntN s 256 : Int) := hd 27 _ 66 rfl rfl (by kernel_rfl)
    exact g_eql3 rfl h64 h66 rfl,
    by
    intro _ act W hS hun hd
    have h62 : act.eval (.tmp 62) = .bool true := hd 23 _ 62 rfl rfl (by kernel_rfl)
    have h67 : act.eval (.tmp 67) = .bool true := hd 28 _ 67 rfl rfl (by kernel_rfl)
    exact g_pick rfl h62 h67 rfl,
    by
    intro _ act W hS hun hd
    have h68 : act.eval (.tmp 68) = .bool true := hd 29 _ 68 rfl rfl (by kernel_rfl)
    exact g_move rfl h68,
    by
    intro _ act W hS hun hd
    have h12 : act.eval (.tmp 12) = .int .u8 (nextB s n : Int) := hun 12 (by kernel_rfl)
    exact g_move rfl h12,
    by
    intro _ act W hS hun hd
    have h14 : act.eval (.tmp 14) = .int .u8 (nextB s n : Int) := hun 14 (by kernel_rfl)
    exact g_move rfl h14,
    by
    intro _ act W hS hun hd
    have h70 : act.eval (.tmp 70) = .int .u8 (nextB s n : Int) := hd 31 _ 70 rfl rfl (by kernel_rfl)
    have h71 : act.eval (.tmp 71) = .int .u8 (nextB s n : Int) := hd 32 _ 71 rfl rfl (by kernel_rfl)
    exact g_eql5 rfl h70 h71 rfl,
    by
    intro _ act W hS hun hd
    have h69 : act.eval (.tmp 69) = .bool true := hd 30 _ 69 rfl rfl (by kernel_rfl)
    have h72 : act.eval (.tmp 72) = .bool true := hd 33 _ 72 rfl rfl (by kernel_rfl)
    exact g_pick rfl h69 h72 rfl,
    by
    intro _ act W hS hun hd
    have h73 : act.eval (.tmp 73) = .bool true := hd 34 _ 73 rfl rfl (by kernel_rfl)
    exact g_move rfl h73,
    by
    intro _ act W hS hun hd
    have h13 : act.eval (.tmp 13) = .bool (nextOk s n) := hun 13 (by kernel_rfl)
    exact g_move rfl h13,
    by
    intro _ act W hS hun hd
    have h15 : act.eval (.tmp 15) = .bool (nextOk s n) := hun 15 (by kernel_rfl)
    exact g_move rfl h15,
    by
    intro _ act W hS hun hd
    have h75 : act.eval (.tmp 75) = .bool (nextOk s n) := hd 36 _ 75 rfl rfl (by kernel_rfl)
    have h76 : act.eval (.tmp 76) = .bool (nextOk s n) := hd 37 _ 76 rfl rfl (by kernel_rfl)
    exact g_eql4 rfl h75 h76 rfl,
    by
    intro _ act W hS hun hd
    have h74 : act.eval (.tmp 74) = .bool true := hd 35 _ 74 rfl rfl (by kernel_rfl)
    have h77 : act.eval (.tmp 77) = .bool true := hd 38 _ 77 rfl rfl (by kernel_rfl)
    exact g_pick rfl h74 h77 rfl,
    by
    intro _ act W hS hun hd
    have h78 : act.eval (.tmp 78) = .bool true := hd 39 _ 78 rfl rfl (by kernel_rfl)
    exact g_move rfl h78,
    by
    intro _ act W hS hun hd
    have h16 : act.eval (.tmp 16) = .slice ao rs.length rc := hun 16 (by kernel_rfl)
    exact g_move rfl h16,
    by
    intro _ act W hS hun hd
    exact g_load4 rfl (hun 6 (by kernel_rfl)) (HC.out.below hS HC.out.lt) rfl,
    by
    intro _ act W hS hun hd
    have h81 : act.eval (.tmp 81) = .agg #[.int .u64 (wd (s) 0), .int .u64 (wd (s) 1), .int .u64 (wd (s) 2), .int .u64 (wd (s) 3)] := hd 42 _ 81 rfl rfl (by kernel_rfl)
    exact g_call (f := 22) rfl (enters_of Tryd.func22 (by kernel_rfl) rfl) (by simp only [List.map_toArray, List.map_cons, List.map_nil, h81]) ((rruns_at s rs ERS.out W)),
    by
    intro _ act W hS hun hd
    have h80 : act.eval (.tmp 80) = .slice ao rs.length rc := hd 41 _ 80 rfl rfl (by kernel_rfl)
    have h82 : RunsAt W W.heap.size (act.eval (.tmp 82)) rs := hd 43 _ 82 rfl rfl (by kernel_rfl)
    exact g_call (f := 21) rfl (enters_of Tryd.func21 (by kernel_rfl) rfl) (by simp only [List.map_toArray, List.map_cons, List.map_nil, h80]) ((same_eq rs _ _ W (HRU.out.below hS hS.size) h82).mono fun _ _ ⟨he, hb⟩ => ⟨_, he, hb, rfl⟩),
    by
    intro _ act W hS hun hd
    have h79 : act.eval (.tmp 79) = .bool true := hd 40 _ 79 rfl rfl (by kernel_rfl)
    have h83 : act.eval (.tmp 83) = .bool true := hd 44 _ 83 rfl rfl (by kernel_rfl)
    exact g_pick rfl h79 h83 rfl,
    by
    intro _ act W hS hun hd
    have h84 : act.eval (.tmp 84) = .bool true := hd 45 _ 84 rfl rfl (by kernel_rfl)
    exact g_assign rfl h84,
  trivial⟩ ?_
  intro f W hS hf
  have h17 : f 17 = .bool true := hf 46 _ 17 rfl rfl
  have HB5 := Lib.hid (bt HB4.out hS)
  have HL5 := Lib.hid (HL.out.below hS)
  have HC5 := Lib.hid (HC.out.below hS HC.out.lt)
  have HR5 := Lib.hid (own_below HRO.out hS)
  clear hf hS HL HC HB4 HRO HRU HTX
  simp only [putOps]
  go_simp
  go_wp2_with fail
  obtain ⟨w5, rfl⟩ : ∃ w5 : World, w5 = W := ⟨_, rfl⟩
  go_loopw [18] (fun i wr => ∃ k : Nat, k ≤ rs.length ∧ i = .int .i64 k ∧ (∃ ys, wr.ownsRow w3.heap.size 38 2 (.slice ao rs.length rc) rs.length ys) ∧ w5.grownBy wr (Value.slice ao rs.length rc).ownBlock) (fun i _ => rs.length - (intOf i).toNat)
  case atStart => exact ⟨0, by omega, rfl, ⟨_, HR5.out⟩, World.grownBy.refl _ _⟩
  case round =>
    obtain ⟨k, hk, rfl, ⟨ys, hown⟩, hgr⟩ := hrel
    by_cases hlt : k < rs.length
    · obtain ⟨g', cap', e', hge, h1, h2, h3⟩ := own_shape hown (by omega)
      cases e'
      have hlen := hown.1
      obtain ⟨u0, c0⟩ : ∃ u, wr.cell? ⟨g', k * 2, none⟩ = some u := ⟨_, (hown.cellAt (k * 2) (by omega)).trans (List.getElem?_eq_getElem (by omega))⟩
      obtain ⟨u1, c1⟩ : ∃ u, wr.cell? ⟨g', k * 2 + 1, none⟩ = some u := ⟨_, (hown.cellAt (k * 2 + 1) (by omega)).trans (List.getElem?_eq_getElem (by omega))⟩
      have f0 := hown.frozenAt (k * 2)
      have f1 := hown.frozenAt (k * 2 + 1)
      have hst := hown.stored (k * 2) (.int .u8 1)
      have hst2 := hst.1.stored (k * 2 + 1) (.int .u8 2)
      have HS2 := Lib.hid (And.intro hst2.1 (grown_more hgr (grown_more hst.2 hst2.2)))
      have hi2 : (k : Int) < rs.length := by omega
      clear hown hgr hst hst2 hlen
      go_wp2_with fail
      go_roundw
      case rel => exact ⟨k + 1, by omega, by go_num, ⟨_, HS2.out.1⟩, HS2.out.2⟩
      case measure => simp [intOf]; omega
    · have hi2 : rs.length ≤ k := by omega
      have hrow : ∀ r, (Value.slice ao rs.length rc).ownBlock = some r → w3.heap.size ≤ r := fun r e => (HR5.out.lt r e).1
      have HB := Lib.hid (HB5.out.grown hgr HB5.out.size (fun r e => by have := hrow r e; omega))
      have HL2 : Hid (Lent wr g l) := ⟨Nat.lt_of_lt_of_le HL5.out.1 hgr.size, fun i hi => (World.cell?_of_block (a := ⟨g, i, none⟩) (hgr.block g HL5.out.1 (fun e => by have := hrow g e.symm; omega))).trans (HL5.out.2 i hi)⟩
      have HC2 : Hid (Blk wr w.heap.size #[.int .u64 (wd s 0), .int .u64 (wd s 1), .int .u64 (wd s 2), .int .u64 (wd s 3)] 25) := (hgr.block _ HC5.out.lt (fun e => by have := hrow _ e.symm; omega)).trans HC5.out
      have HTX2 := Lib.hid (HTx.out.below HB.out)
      have HTB2 := Lib.hid (HT.out.below HB.out)
      clear hgr hown hrow
      go_wp2_with fail
      refine wp_region_puts [some (.is (.bool true)), some (.is (.bool true)), some (.is (.slice (some ⟨g, 0, none⟩) l.length cap)), some (.is (.slice A l.length c)), some (.is (.bool true)), some (.is (.bool true)), some (.is (.bool true)), some (.is (.agg #[.int .u64 (wd (s) 0), .int .u64 (wd (s) 1), .int .u64 (wd (s) 2), .int .u64 (wd (s) 3)])), some (.st (runsSt rs)), some (.is (.agg #[.int .u64 (wd (s) 0), .int .u64 (wd (s) 1), .int .u64 (wd (s) 2), .int .u64 (wd (s) 3)])), some (.st (runsSt rs)), some (.is (.bool true)), some (.is (.bool true)), some (.is (.bool true)), some (.is (.bool true)), some (.is (.bool true)), some (.is (.bool true))] (by kernel_rfl) (by kernel_rfl) (by kernel_rfl) (by kernel_rfl) ⟨by
        intro _ act W hS hun hd
        have h17 : act.eval (.tmp 17) = .bool true := hun 17 (by kernel_rfl)
        exact g_move rfl h17,
        by
        intro _ act W hS hun hd
        have h95 : act.eval (.tmp 95) = .bool true := hd 0 _ 95 rfl rfl (by kernel_rfl)
        exact g_move rfl h95,
        by
        intro _ act W hS hun hd
        have h11 : act.eval (.tmp 11) = .slice (some ⟨g, 0, none⟩) l.length cap := hun 11 (by kernel_rfl)
        exact g_move rfl h11,
        by
        intro _ act W hS hun hd
        have h0 : act.eval (.tmp 0) = .slice A l.length c := hun 0 (by kernel_rfl)
        exact g_move rfl h0,
        by
        intro _ act W hS hun hd
        have h97 : act.eval (.tmp 97) = .slice (some ⟨g, 0, none⟩) l.length cap := hd 2 _ 97 rfl rfl (by kernel_rfl)
        have h98 : act.eval (.tmp 98) = .slice A l.length c := hd 3 _ 98 rfl rfl (by kernel_rfl)
        exact g_call (f := 23) rfl (enters_of Tryd.func23 (by kernel_rfl) rfl) (by simp only [List.map_toArray, List.map_cons, List.map_nil, h97, h98]) ((kept_any A l c g cap (by omega) hc1 hc3 W (HTX2.out.below hS) (HL2.out.below hS)).mono fun _ w' ⟨he, m, hm⟩ => ⟨_, he, by rw [hm]; exact bdrew (Below.refl _ _), rfl⟩),
        by
        intro _ act W hS hun hd
        have h96 : act.eval (.tmp 96) = .bool true := hd 1 _ 96 rfl rfl (by kernel_rfl)
        have h99 : act.eval (.tmp 99) = .bool true := hd 4 _ 99 rfl rfl (by kernel_rfl)
        exact g_pick rfl h96 h99 rfl,
        by
        intro _ act W hS hun hd
        have h100 : act.eval (.tmp 100) = .bool true := hd 5 _ 100 rfl rfl (by kernel_rfl)
        exact g_move rfl h100,
        by
        intro _ act W hS hun hd
        exact g_load4 rfl (hun 6 (by kernel_rfl)) (HC2.out.below hS HC2.out.lt) rfl,
        by
        intro _ act W hS hun hd
        have h102 : act.eval (.tmp 102) = .agg #[.int .u64 (wd (s) 0), .int .u64 (wd (s) 1), .int .u64 (wd (s) 2), .int .u64 (wd (s) 3)] := hd 7 _ 102 rfl rfl (by kernel_rfl)
        exact g_call (f := 12) rfl (enters_of Tryd.func12 (by kernel_rfl) rfl) (by simp only [List.map_toArray, List.map_cons, List.map_nil, h102]) ((runs_ret s rs ERS.out W (HTB2.out.below hS))),
        by
        intro _ act W hS hun hd
        exact g_load4 rfl (hun 6 (by kernel_rfl)) (HC2.out.below hS HC2.out.lt) rfl,
        by
        intro _ act W hS hun hd
        have h104 : act.eval (.tmp 104) = .agg #[.int .u64 (wd (s) 0), .int .u64 (wd (s) 1), .int .u64 (wd (s) 2), .int .u64 (wd (s) 3)] := hd 9 _ 104 rfl rfl (by kernel_rfl)
        exact g_call (f := 22) rfl (enters_of Tryd.func22 (by kernel_rfl) rfl) (by simp only [List.map_toArray, List.map_cons, List.map_nil, h104]) ((rruns_at s rs ERS.out W)),
        by
        intro _ act W hS hun hd
        have h103 : RunsAt W W.heap.size (act.eval (.tmp 103)) rs := hd 8 _ 103 rfl rfl (by kernel_rfl)
        have h105 : RunsAt W W.heap.size (act.eval (.tmp 105)) rs := hd 10 _ 105 rfl rfl (by kernel_rfl)
        exact g_call (f := 21) rfl (enters_of Tryd.func21 (by kernel_rfl) rfl) (by simp only [List.map_toArray, List.map_cons, List.map_nil]) ((same_eq rs _ _ W h103 h105).mono fun _ _ ⟨he, hb⟩ => ⟨_, he, hb, rfl⟩),
        by
        intro _ act W hS hun hd
        have h101 : act.eval (.tmp 101) = .bool true := hd 6 _ 101 rfl rfl (by kernel_rfl)
        have h106 : act.eval (.tmp 106) = .bool true := hd 11 _ 106 rfl rfl (by kernel_rfl)
        exact g_pick rfl h101 h106 rfl,
        by
        intro _ act W hS hun hd
        have h107 : act.eval (.tmp 107) = .bool true := hd 12 _ 107 rfl rfl (by kernel_rfl)
        exact g_move rfl h107,
        by
        intro _ act W hS hun hd
        exact g_call (f := 8) (args := #[]) rfl (enters_of Tryd.func8 (by kernel_rfl) rfl) (by simp) ((awake_any W (HTB2.out.below hS)).mono fun _ _ ⟨he, hb⟩ => ⟨_, he, hb, rfl⟩),
        by
        intro _ act W hS hun hd
        have h108 : act.eval (.tmp 108) = .bool true := hd 13 _ 108 rfl rfl (by kernel_rfl)
        have h109 : act.eval (.tmp 109) = .bool true := hd 14 _ 109 rfl rfl (by kernel_rfl)
        exact g_pick rfl h108 h109 rfl,
        by
        intro _ act W hS hun hd
        have h110 : act.eval (.tmp 110) = .bool true := hd 15 _ 110 rfl rfl (by kernel_rfl)
        exact g_assign rfl h110,
      trivial⟩ ?_
      intro f W hS hf
      have h10 : f 10 = .bool true := hf 16 _ 10 rfl rfl
      have HBZ := Lib.hid (bt HB.out hS)
      clear hf hS
      simp only [putOps]
      go_simp
      go_wp2_with fail
      go_ret
      exact ⟨rfl, HBZ.out⟩
end Go.Proofs.YtcnikeeapillnaaDoor

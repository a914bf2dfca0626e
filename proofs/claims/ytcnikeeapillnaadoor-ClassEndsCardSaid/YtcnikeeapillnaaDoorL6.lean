/- The law ClassRuns. -/
import Derived.Test.YtcnikeeapillnaaDoorWi
import Derived.Test.YtcnikeeapillnaaDoorMe
namespace Go.Proofs.YtcnikeeapillnaaDoor
open Go Go.RowKit

theorem en17 : ∀ args w, (callFunc 17 args).run Tryd.prog w = .ok (.enter 17 args) w := enters_of Tryd.func17 (by kernel_rfl) rfl
theorem has_as (s : Nat → Bool) (x : Nat) (w : World) (h : x < 256) :
    Calls Tryd.prog 17 #[.agg #[.int .u64 (wd s 0), .int .u64 (wd s 1), .int .u64 (wd s 2), .int .u64 (wd s 3)], .int .u8 x] w fun e w' => ∃ v, e = .returned v ∧ Below w.heap.size w w' ∧ v = .bool (s x) :=
  (has_any s x w h).mono fun _ _ ⟨he, hb⟩ => ⟨_, he, hb, rfl⟩
section
variable {a : Act} {w : World} {o : Oper} {Φ : Value → World → Prop}
theorem g_conv8 {x : Operand} {j : Nat} (hj : j < 256) (ho : o.op = .convert 3 5 x) (hx : a.eval x = .int .i64 j) (h : Φ (.int .u8 j) w) :
    Gives Tryd.prog (fun v w' => Below w.heap.size w w' ∧ Φ v w') ((execOp a.eval o).run Tryd.prog w) := by
  refine .value (v := .int .u8 j) (w := w) ?_ ⟨Below.refl _ _, h⟩
  have hw : IntKind.u8.wrap (j : Int) = (j : Int) := by rw [IntKind.wrap_u8]; omega
  generalize a.eval = ρ at *
  simp only [execOp, ho, hx]
  go_simp
theorem g_index49 {x y : Operand} {B j : Nat} (hj : j < 256) (ho : o.op = .indexAddr 49 x y) (hx : a.eval x = .slice (some ⟨B, 0, none⟩) 256 256) (hy : a.eval y = .int .i64 j) (h : Φ (.pointer (some ⟨B, j, none⟩)) w) :
    Gives Tryd.prog (fun v w' => Below w.heap.size w w' ∧ Φ v w') ((execOp a.eval o).run Tryd.prog w) := by
  refine .value (v := .pointer (some ⟨B, j, none⟩)) (w := w) ?_ ⟨Below.refl _ _, h⟩
  have h1 : (j : Int) < 256 := by omega
  generalize a.eval = ρ at *
  simp only [execOp, ho, hx, hy]
  go_simp
theorem g_loadb {x : Operand} {B j : Nat} {v : Value} (ho : o.op = .load 4 x) (hx : a.eval x = .pointer (some ⟨B, j, none⟩)) (hb : w.cell? ⟨B, j, none⟩ = some v) (h : Φ v w) :
    Gives Tryd.prog (fun v w' => Below w.heap.size w w' ∧ Φ v w') ((execOp a.eval o).run Tryd.prog w) := by
  refine .value (v := v) (w := w) ?_ ⟨Below.refl _ _, h⟩
  generalize a.eval = ρ at *
  simp only [execOp, ho, hx]
  go_simp
theorem g_neqb {x y : Operand} {t : TypeId} {b : Bool} (ho : o.op = .binOp .neq 4 x y t) (hx : a.eval x = .bool b) (hy : a.eval y = .bool b) (h : Φ (.bool false) w) :
    Gives Tryd.prog (fun v w' => Below w.heap.size w w' ∧ Φ v w') ((execOp a.eval o).run Tryd.prog w) := by
  refine .value (v := .bool false) (w := w) ?_ ⟨Below.refl _ _, h⟩
  generalize a.eval = ρ at *
  simp only [execOp, ho, hx, hy]
  go_simp
  try simp
end
theorem en30 : ∀ args w, (callFunc 30 args).run Tryd.prog w = .ok (.enter 30 args) w := enters_of Tryd.func30 (by kernel_rfl) rfl
theorem from_as (rs : List (Nat × Nat)) (v : Value) (t : Nat → Bool) (h : ∀ i, i < 256 → fromS rs i = t i) (w : World) (hv : RunsAt w w.heap.size v rs) (hsm : Small rs) :
    Calls Tryd.prog 30 #[v] w fun e w' => ∃ v, e = .returned v ∧ Below w.heap.size w w' ∧ v = .agg #[.int .u64 (wd t 0), .int .u64 (wd t 1), .int .u64 (wd t 2), .int .u64 (wd t 3)] :=
  (from_any rs v w hv hsm).mono fun _ _ ⟨he, hb⟩ => ⟨_, he, hb, cls_congr h⟩
theorem fromS_inRuns (rs : List (Nat × Nat)) (i : Nat) : fromS rs i = inRuns rs i := by
  unfold fromS inRuns rng
  congr 1; funext r; rw [Bool.eq_iff_iff]; simp; omega
theorem mem_elems {s : Nat → Bool} {p m : Nat} : m ∈ elems s p ↔ m < p ∧ s m = true := by simp [elems]
theorem elems_sorted (s : Nat → Bool) (p : Nat) : (elems s p).Pairwise (· < ·) := List.Pairwise.filter _ List.pairwise_lt_range
theorem next_facts (s : Nat → Bool) (n : Int) : (∀ m : Nat, n ≤ (m : Int) → m < 256 → (nextOk s n = false ∨ m < nextB s n) → s m = false) ∧
    (nextOk s n = true → s (nextB s n) = true ∧ n ≤ (nextB s n : Int)) ∧ nextB s n < 256 := by
  unfold nextOk nextB
  cases h : nextOf s n with
  | none =>
    refine ⟨fun m hm hl _ => ?_, fun h => by simp at h, by simp⟩
    have := List.find?_eq_none.1 h m
    cases hs : s m with
    | false => rfl
    | true => exact absurd (this (mem_elems.2 ⟨hl, hs⟩)) (by simp [hm])
  | some x =>
    have hx := List.find?_some h
    have hxm := List.mem_of_find?_eq_some h
    refine ⟨fun m hm hl hd => ?_, fun _ => ⟨(mem_elems.1 hxm).2, by simpa using hx⟩, (mem_elems.1 hxm).1⟩
    have hmx : m < x := by simpa using hd
    cases hs : s m with
    | false => rfl
    | true =>
      exfalso
      obtain ⟨_, l1, l2, he, has⟩ := List.find?_eq_some_iff_append.1 h
      have hmem : m ∈ l1 ++ x :: l2 := he ▸ mem_elems.2 ⟨hl, hs⟩
      have hsort := elems_sorted s 256
      rw [he] at hsort
      rcases List.mem_append.1 hmem with h1 | h1
      · have := has m h1; simp at this; omega
      · rcases List.mem_cons.1 h1 with rfl | h2
        · omega
        · have := (List.pairwise_cons.1 (List.pairwise_append.1 hsort).2.1).1 m h2; omega
section
variable {a : Act} {w : World} {o : Oper} {Φ : Value → World → Prop}
theorem g_not {x : Operand} {t : TypeId} {b : Bool} (ho : o.op = .unOp .not t x) (hx : a.eval x = .bool b) (h : Φ (.bool (!b)) w) :
    Gives Tryd.prog (fun v w' => Below w.heap.size w w' ∧ Φ v w') ((execOp a.eval o).run Tryd.prog w) := by
  refine .value (v := .bool (!b)) (w := w) ?_ ⟨Below.refl _ _, h⟩
  generalize a.eval = ρ at *
  simp only [execOp, ho, hx]
  go_simp
theorem g_index49u {x y : Operand} {B j : Nat} (hj : j < 256) (ho : o.op = .indexAddr 49 x y) (hx : a.eval x = .slice (some ⟨B, 0, none⟩) 256 256) (hy : a.eval y = .int .u8 j) (h : Φ (.pointer (some ⟨B, j, none⟩)) w) :
    Gives Tryd.prog (fun v w' => Below w.heap.size w w' ∧ Φ v w') ((execOp a.eval o).run Tryd.prog w) := by
  refine .value (v := .pointer (some ⟨B, j, none⟩)) (w := w) ?_ ⟨Below.refl _ _, h⟩
  have h1 : (j : Int) < 256 := by omega
  generalize a.eval = ρ at *
  simp only [execOp, ho, hx, hy]
  go_simp
theorem g_conv83 {x : Operand} {j : Nat} (hj : j < 256) (ho : o.op = .convert 5 3 x) (hx : a.eval x = .int .u8 j) (h : Φ (.int .i64 j) w) :
    Gives Tryd.prog (fun v w' => Below w.heap.size w w' ∧ Φ v w') ((execOp a.eval o).run Tryd.prog w) := by
  refine .value (v := .int .i64 j) (w := w) ?_ ⟨Below.refl _ _, h⟩
  have hw : IntKind.i64.wrap (j : Int) = (j : Int) := by rw [IntKind.wrap_i64]; omega
  generalize a.eval = ρ at *
  simp only [execOp, ho, hx]
  go_simp
theorem g_geqi {x y : Operand} {t : TypeId} {m k : Int} {b : Bool} (ho : o.op = .binOp .geq 3 x y t) (hx : a.eval x = .int .i64 m) (hy : a.eval y = .int .i64 k) (hb : decide (k ≤ m) = b) (h : Φ (.bool b) w) :
    Gives Tryd.prog (fun v w' => Below w.heap.size w w' ∧ Φ v w') ((execOp a.eval o).run Tryd.prog w) := by
  refine .value (v := .bool b) (w := w) ?_ ⟨Below.refl _ _, h⟩
  generalize a.eval = ρ at *
  simp only [execOp, ho, hx, hy]
  subst hb
  go_simp
  try simp
end
/-- BLOCK B IS A ROW OF 256 BOOLS, g. -/
def BoolsAt (w : World) (B : Nat) (g : Nat → Bool) : Prop := ∃ cur : Array Value, w.heap[B]? = some (.cells cur 4 (0, 0)) ∧ cur.size = 256 ∧ ∀ b, b < 256 → cur[b]? = some (.bool (g b))
theorem BoolsAt.lt {w : World} {B : Nat} {g : Nat → Bool} (h : BoolsAt w B g) : B < w.heap.size := by
  obtain ⟨_, h, _⟩ := h; exact (Array.getElem?_eq_some_iff.1 h).1
theorem BoolsAt.cell {w : World} {B : Nat} {g : Nat → Bool} (h : BoolsAt w B g) {b : Nat} (hb : b < 256) : w.cell? ⟨B, b, none⟩ = some (.bool (g b)) := by
  obtain ⟨cur, h, _, hc⟩ := h
  have := (show Blk w B cur 4 from h).cell b
  rw [this, hc b hb]
theorem BoolsAt.frozen {w : World} {B : Nat} {g : Nat → Bool} (h : BoolsAt w B g) (b : Nat) : w.frozen? ⟨B, b, none⟩ = false := by
  obtain ⟨cur, h, _⟩ := h
  exact (show Blk w B cur 4 from h).frozen b
theorem BoolsAt.below {w w' : World} {B C : Nat} {g : Nat → Bool} (h : BoolsAt w B g) (hb : Below C w w') (hB : B < C) : BoolsAt w' B g := by
  obtain ⟨cur, h, r⟩ := h
  exact ⟨cur, (hb.block B hB).trans h, r⟩
theorem BoolsAt.alloc {w : World} {B : Nat} {g : Nat → Bool} (h : BoolsAt w B g) (o : Obj) : BoolsAt (w.alloc o) B g := by
  obtain ⟨cur, h', r⟩ := h
  exact ⟨cur, (show Blk w B cur 4 from h').alloc o, r⟩
theorem BoolsAt.set {w : World} {B : Nat} {g g' : Nat → Bool} (h : BoolsAt w B g) {b : Nat} (v : Bool) (hb : b < 256) (hg : ∀ i, i < 256 → g' i = if i = b then v else g i) : BoolsAt (w.setCell ⟨B, b, none⟩ (.bool v)) B g' := by
  obtain ⟨cur, h, hz, hc⟩ := h
  refine ⟨_, (show Blk w B cur 4 from h).set b (.bool v), by simpa using hz, fun i hi => ?_⟩
  rw [hg i hi]
  by_cases e : i = b
  · subst e; simp [hz, hi]
  · rw [Array.getElem?_setIfInBounds_ne (Ne.symm e), hc i hi, if_neg e]
theorem made256 : ∃ mk : Array Value, (∀ w, (Instr.makeSlice 49 (.int .i64 256) (.int .i64 256)).run Tryd.prog w = .ok (.slice (some ⟨w.heap.size, 0, none⟩) 256 256) (w.alloc (.cells mk 4))) ∧
    ∀ w : World, BoolsAt (w.alloc (.cells mk 4)) w.heap.size (fun _ => false) :=
  ⟨Array.replicate 256 (.bool false), fun _ => by kernel_rfl, fun w => ⟨_, Blk.new w _ _, by simp, fun b hb => by simp [hb]⟩⟩

theorem BoolsAt.congr {w : World} {B : Nat} {g g' : Nat → Bool} (h : BoolsAt w B g) (hg : ∀ i, i < 256 → g i = g' i) : BoolsAt w B g' := by
  obtain ⟨cur, h, hz, hc⟩ := h
  exact ⟨cur, h, hz, fun b hb => by rw [hc b hb, hg b hb]⟩
theorem rgt_eq (rs : List (Nat × Nat)) (k : Nat) : rgt rs k = rget rs k := rfl
theorem set_step (A : Bool) (x i j : Nat) (h : x ≤ j) : (A || decide (x ≤ i ∧ i < j + 1)) = if i = j then true else (A || decide (x ≤ i ∧ i < j)) := by
  by_cases e : i = j
  · subst e; simp [h]
  · rw [if_neg e]; congr 1; rw [Bool.eq_iff_iff]; simp only [decide_eq_true_eq]; omega
theorem rsum_take (rs : List (Nat × Nat)) (k : Nat) (h : k < rs.length) : rsum (rs.take (k + 1)) = rsum (rs.take k) + ((rget rs k).2 + 1 - (rget rs k).1) := by
  rw [List.take_succ_eq_append_getElem h, rsum_app]; simp [rsum, rget, h]
theorem inRuns_take (rs : List (Nat × Nat)) (k : Nat) (h : k < rs.length) (b : Nat) : inRuns (rs.take (k + 1)) b = (inRuns (rs.take k) b || decide ((rget rs k).1 ≤ b ∧ b ≤ (rget rs k).2)) := by
  unfold inRuns
  rw [List.take_succ_eq_append_getElem h, List.any_append]; simp [rget, h]
theorem rsum_le (s : Nat → Bool) (p : Nat) {rs : List (Nat × Nat)} (h : RunsInv s p rs) (k : Nat) : rsum (rs.take k) ≤ p := by
  have h1 : rsum rs ≤ p := by rw [h.sum]; exact cntN_le s p
  have h2 : rsum rs = rsum (rs.take k) + rsum (rs.drop k) := by rw [← rsum_app, List.take_append_drop]
  omega
theorem runs_at' (s : Nat → Bool) (rs : List (Nat × Nat)) (hrs : runsOf (elems s 256) = rs) (w : World) (hT : Tab w) :
    Calls Tryd.prog 12 #[.agg #[.int .u64 (wd s 0), .int .u64 (wd s 1), .int .u64 (wd s 2), .int .u64 (wd s 3)]] w fun e W' => ∃ ao cap, e = .returned (.slice ao rs.length cap) ∧ RunsAt W' W'.heap.size (.slice ao rs.length cap) rs ∧ Below w.heap.size w W' :=
  (runs_at s rs rs.length hrs rfl w hT).mono fun _ _ ⟨ao, cap, he, ho, hb⟩ => ⟨ao, cap, he, RunsAt.of_owns ho, hb⟩

set_option maxRecDepth 100000 in
set_option maxHeartbeats 4000000 in
theorem lawRuns_any (s : Nat → Bool) (n : Int) (w : World) (hT : Tab w) (hn0 : -9223372036854775808 ≤ n) (hn1 : n < 9223372036854775808) :
    Calls Tryd.prog 6 #[.agg #[.int .u64 (wd s 0), .int .u64 (wd s 1), .int .u64 (wd s 2), .int .u64 (wd s 3)], .int .i64 n] w fun e w' => e = .returned (.bool true) ∧ Below w.heap.size w w' := by
  have hinv := runs_inv s 256 (Nat.le_refl _)
  have hsm : Small (runsOf (elems s 256)) := runsOf_small fun b hb => by
    simp only [elems, List.mem_filter, List.mem_range] at hb; exact hb.1
  obtain ⟨rs, hrs⟩ : ∃ rs, runsOf (elems s 256) = rs := ⟨_, rfl⟩
  have hR := runs_at' s rs hrs
  rw [hrs] at hinv hsm
  have HI := Lib.hid hinv
  have HS := Lib.hid hsm
  have HT := Lib.hid hT
  have hlen : rs.length ≤ 256 := by
    rw [← hrs]; exact Nat.le_trans (runsOf_length _) (elems_le s 256)
  have HRS := Lib.hid hrs
  clear hinv hsm hT hrs
  have B1 := (Below.refl w.heap.size w).alloc (Nat.le_refl _) (.cells #[.int .u64 (wd s 0), .int .u64 (wd s 1), .int .u64 (wd s 2), .int .u64 (wd s 3)] 25)
  have bC := Blk.new w #[.int .u64 (wd s 0), .int .u64 (wd s 1), .int .u64 (wd s 2), .int .u64 (wd s 3)] 25
  obtain ⟨mk, hmk, hnew⟩ := made256
  go_enter Tryd.func6, Tryd.ntmps6
  go_wp2_with (first
    | (go_at_call 8; (with_reducible refine (awake_any _ (HT.out.below B1)).mono ?_); rintro e w1 ⟨rfl, hb1⟩; have B2 := B1.trans (hb1.mono B1.size); have bC2 := bC.below hb1 bC.lt; obtain ⟨⟨d0, d1, d2, d3⟩, _⟩ := bC2.four)
    | (go_at_call 12; (with_reducible refine (hR _ (HT.out.below B2)).mono ?_); rintro e w2 ⟨ao, cap, rfl, hruns, hb2⟩; have B3 := B2.trans (hb2.mono B2.size); have bC3 := bC2.below hb2 bC2.lt; clear d0 d1 d2 d3 hb1 hb2))
  have hnew2 := hnew w2
  have B4 := B3.alloc B3.size (.cells mk 4)
  have hW2 : Below (w2.heap.size) w2 (w2.alloc (.cells mk 4)) := (Below.refl _ w2).alloc (Nat.le_refl _) _
  have HRUN := Lib.hid hruns
  obtain ⟨ao', cap', hav, _, hcells⟩ := hruns
  obtain ⟨rfl, rfl⟩ : ao' = ao ∧ cap' = cap := by simp at hav; exact ⟨hav.1.symm, hav.2.symm⟩
  have HC := Lib.hid hcells
  clear hav hcells bC bC2 B1 B2 hR hmk hnew
  go_loopw [6, 8] (fun m i wr => ∃ k : Nat, k ≤ rs.length ∧ i = .int .i64 k ∧ m = .int .i64 (rsum (rs.take k)) ∧ BoolsAt wr w2.heap.size (inRuns (rs.take k)) ∧ Below w2.heap.size w2 wr) (fun _ i _ => rs.length - (intOf i).toNat)
  case atStart => exact ⟨0, by omega, rfl, rfl, hnew2, hW2⟩
  case round =>
    obtain ⟨k, hk, rfl, rfl, hBo, hbl⟩ := hrel
    have hsumle := rsum_le s 256 HI.out k
    by_cases hlt : k < rs.length
    · obtain ⟨b, off, rfl, hb, hcell⟩ := HC.out (by omega)
      have c0 := (hbl.cell (p := ⟨b, off + k * 2, none⟩) hb).trans ((hcell (k * 2) (by omega)).trans (rcells_at rs k hlt).1)
      have c1 := (hbl.cell (p := ⟨b, off + (k * 2 + 1), none⟩) hb).trans ((hcell (k * 2 + 1) (by omega)).trans (rcells_at rs k hlt).2)
      rw [← Nat.add_assoc] at c1
      have c1w := (hcell (k * 2 + 1) (by omega)).trans (rcells_at rs k hlt).2
      rw [← Nat.add_assoc] at c1w
      obtain ⟨hx, hy⟩ := HS.out.get hlt
      have hle := (HI.out.le k hlt).1
      rw [rgt_eq] at hle
      have hst := rsum_take rs k hlt
      have hit := inRuns_take rs k hlt
      have hsumle2 := rsum_le s 256 HI.out (k + 1)
      have hgap : 0 < k → (rget rs (k - 1)).2 + 1 < (rget rs k).1 := fun h => by
        have := HI.out.gap (k - 1) (by omega); rwa [show k - 1 + 1 = k by omega] at this
      have cz : 0 < k → wr.cell? ⟨b, off + (k - 1) * 2 + 1, none⟩ = some (.int .u8 ((rget rs (k - 1)).2 : Int)) := fun h => by
        have := (hbl.cell (p := ⟨b, off + ((k - 1) * 2 + 1), none⟩) hb).trans ((hcell ((k - 1) * 2 + 1) (by omega)).trans (rcells_at rs (k - 1) (by omega)).2)
        rwa [← Nat.add_assoc] at this
      obtain ⟨x, hxe⟩ : ∃ x, x = (rget rs k).1 := ⟨_, rfl⟩
      obtain ⟨y, hye⟩ : ∃ y, y = (rget rs k).2 := ⟨_, rfl⟩
      obtain ⟨z, hze⟩ : ∃ z, z = (rget rs (k - 1)).2 := ⟨_, rfl⟩
      obtain ⟨S, hSe⟩ : ∃ S, S = rsum (rs.take k) := ⟨_, rfl⟩
      rw [← hxe] at c0 hx hle hst hit hgap
      rw [← hye] at c1 c1w hy hle hst hit
      rw [← hze] at hgap cz
      rw [← hSe] at hst hsumle ⊢
      rw [hst] at hsumle2
      have HST := Lib.hid hst
      have HIT := Lib.hid hit
      have HCW := Lib.hid c1w
      have HBO := Lib.hid hBo
      have HBL := Lib.hid hbl
      clear hxe hye hze hSe hst hit hcell hnew2 c1w hBo hbl
      have t1 : decide (y < x) = false := by simp; omega
      by_cases hk0 : 0 < k
      · have cz' := cz hk0
        have hg' := hgap hk0
        have t2 : (0 : Int) < (k : Int) := by omega
        have t3 : decide ((x : Int) ≤ (z : Int) + 1) = false := by simp; omega
        have t4 : decide (x ≤ z + 1) = false := by simp; omega
        have q2 : (0 : Int) ≤ (k : Int) - 1 := by omega
        have q2' : 1 ≤ k := by omega
        have q3 : (k : Int) - 1 < (rs.length : Int) := by omega
        have hz256 : z < 256 := by omega
        have q1 : IntKind.i64.wrap ((k : Int) - 1) = (k : Int) - 1 := IntWalk.i64_in _ (by omega)
        have q5 : IntKind.i64.wrap ((z : Int) + 1) = (z : Int) + 1 := IntWalk.i64_in _ (by omega)
        have q4 : ((k : Int) - 1).toNat = k - 1 := by omega
        clear cz hgap
        go_wp2_with fail
        go_quiet (fail)
        go_wp2
        clear cz' hg' t2 t3 t4 q2 q2' q3 hz256 q1 q5 q4
        clear c0 c1 t1
        go_loopw [6, 9] (fun m v wi => ∃ j : Nat, x ≤ j ∧ j ≤ y + 1 ∧ v = .int .i64 j ∧ m = .int .i64 ((S + (j - x) : Nat) : Int) ∧ BoolsAt wi w2.heap.size (fun b => inRuns (rs.take k) b || decide (x ≤ b ∧ b < j)) ∧ Below w2.heap.size w2 wi) (fun _ v _ => y + 1 - (intOf v).toNat)
        case atStart => exact ⟨x, Nat.le_refl _, by omega, rfl, by simp, HBO.out.congr fun i _ => by simp; intro; omega, bdrew HBL.out⟩
        case round =>
          obtain ⟨j, hj1, hj2, rfl, rfl, hBi, hbi⟩ := hrel
          have c1 := (hbi.cell (p := ⟨b, off + k * 2 + 1, none⟩) hb).trans HCW.out
          by_cases hjy : j ≤ y
          · have hfz := hBi.frozen j
            have hcl := hBi.cell (b := j) (by omega)
            have hj256 : (j : Int) < 256 := by omega
            have HBI := Lib.hid hBi
            have HBB := Lib.hid hbi
            obtain ⟨vv, hvv⟩ : ∃ vv, vv = (inRuns (rs.take k) j || decide (x ≤ j ∧ j < j)) := ⟨_, rfl⟩
            rw [← hvv] at hcl
            clear hBi hbi hvv
            go_wp2
            go_roundw
            case rel => exact ⟨j + 1, by omega, by omega, by go_num, by congr 2; omega, HBI.out.set true (by omega) (fun i _ => set_step _ x i j hj1), HBB.out.setCell (p := ⟨w2.heap.size, j, none⟩) (Nat.le_refl _) _⟩
            case measure => simp [intOf]; omega
          · obtain rfl : j = y + 1 := by omega
            have HBI := Lib.hid hBi
            have HBB := Lib.hid hbi
            clear hBi hbi
            go_wp2
            go_roundw
            case rel => exact ⟨k + 1, by omega, by go_num, by rw [HST.out], HBI.out.congr fun i _ => by rw [HIT.out i]; congr 1; rw [Bool.eq_iff_iff]; simp only [decide_eq_true_eq]; omega, HBB.out⟩
            case measure => simp [intOf]; omega
      · have t2 : decide ((0 : Int) < (k : Int)) = false := by simp; omega
        have t2' : decide (0 < k) = false := by simp; omega
        clear cz hgap
        go_wp2_with fail
        go_quiet (fail)
        go_wp2
        clear t2 t2'
        clear c0 c1 t1
        go_loopw [6, 9] (fun m v wi => ∃ j : Nat, x ≤ j ∧ j ≤ y + 1 ∧ v = .int .i64 j ∧ m = .int .i64 ((S + (j - x) : Nat) : Int) ∧ BoolsAt wi w2.heap.size (fun b => inRuns (rs.take k) b || decide (x ≤ b ∧ b < j)) ∧ Below w2.heap.size w2 wi) (fun _ v _ => y + 1 - (intOf v).toNat)
        case atStart => exact ⟨x, Nat.le_refl _, by omega, rfl, by simp, HBO.out.congr fun i _ => by simp; intro; omega, bdrew HBL.out⟩
        case round =>
          obtain ⟨j, hj1, hj2, rfl, rfl, hBi, hbi⟩ := hrel
          have c1 := (hbi.cell (p := ⟨b, off + k * 2 + 1, none⟩) hb).trans HCW.out
          by_cases hjy : j ≤ y
          · have hfz := hBi.frozen j
            have hcl := hBi.cell (b := j) (by omega)
            have hj256 : (j : Int) < 256 := by omega
            have HBI := Lib.hid hBi
            have HBB := Lib.hid hbi
            obtain ⟨vv, hvv⟩ : ∃ vv, vv = (inRuns (rs.take k) j || decide (x ≤ j ∧ j < j)) := ⟨_, rfl⟩
            rw [← hvv] at hcl
            clear hBi hbi hvv
            go_wp2
            go_roundw
            case rel => exact ⟨j + 1, by omega, by omega, by go_num, by congr 2; omega, HBI.out.set true (by omega) (fun i _ => set_step _ x i j hj1), HBB.out.setCell (p := ⟨w2.heap.size, j, none⟩) (Nat.le_refl _) _⟩
            case measure => simp [intOf]; omega
          · obtain rfl : j = y + 1 := by omega
            have HBI := Lib.hid hBi
            have HBB := Lib.hid hbi
            clear hBi hbi
            go_wp2
            go_roundw
            case rel => exact ⟨k + 1, by omega, by go_num, by rw [HST.out], HBI.out.congr fun i _ => by rw [HIT.out i]; congr 1; rw [Bool.eq_iff_iff]; simp only [decide_eq_true_eq]; omega, HBB.out⟩
            case measure => simp [intOf]; omega
    · obtain rfl : k = rs.length := by omega
      have hBo2 := hBo.congr (g' := s) (fun i hi => by rw [List.take_length]; exact HI.out.ins i hi)
      have hsum := HI.out.sum
      rw [List.take_length, hsum] at hsumle ⊢
      have HBO := Lib.hid hBo2
      have HBL := Lib.hid hbl
      have bC4 := bC3.below hbl bC3.lt
      have B5 := B3.trans (hbl.mono B3.size)
      clear hBo hBo2 hbl hnew2 hsum hW2 B4
      go_wp2
      obtain ⟨wo, rfl⟩ : ∃ wo : World, wo = wr := ⟨_, rfl⟩
      go_loopw [10] (fun v wr3 => ∃ j : Nat, j ≤ 256 ∧ v = .int .i64 j ∧ Below wo.heap.size wo wr3) (fun v _ => 256 - (intOf v).toNat)
      case atStart => exact ⟨0, by omega, rfl, Below.refl _ _⟩
      case round =>
        obtain ⟨j, hj, rfl, hb3⟩ := hrel
        have bC5 := bC4.below hb3 bC4.lt
        have hBo3 := HBO.out.below hb3 HBO.out.lt
        have HB3 := Lib.hid hb3
        clear hb3
        by_cases hj2 : j < 256
        · have hdj : decide ((j : Int) < 256) = true := by simp; omega
          go_wp2
          refine wp_region_lay [some (.is (.agg #[.int .u64 (wd s 0), .int .u64 (wd s 1), .int .u64 (wd s 2), .int .u64 (wd s 3)])), some (.is (.int .i64 j)), some (.is (.int .u8 j)), some (.is (.bool (s j))), some (.is (.slice (some ⟨w2.heap.size, 0, none⟩) 256 256)), some (.is (.int .i64 j)), some (.is (.pointer (some ⟨w2.heap.size, j, none⟩))), some (.is (.bool (s j))), some (.is (.bool false))] (fun f => #[.agg #[.int .u64 (wd s 0), .int .u64 (wd s 1), .int .u64 (wd s 2), .int .u64 (wd s 3)], .int .i64 n, .pointer (some ⟨w.heap.size, 0, none⟩), undef, u4, .slice ao' rs.length cap', .int .i64 (cntN s 256), .slice (some ⟨w2.heap.size, 0, none⟩) 256 256, .int .i64 rs.length, u9, .int .i64 j, undef, undef, undef, .bool true, .bool false, .agg #[.int .u64 (wd s 0), .int .u64 (wd s 1), .int .u64 (wd s 2), .int .u64 (wd s 3)], .slice ao' rs.length cap', .slice (some ⟨w2.heap.size, 0, none⟩) 256 256, .int .i64 rs.length, .slice ao' rs.length cap', .int .i64 rs.length, .bool false, u23, u24, u25, u26, u27, u28, u29, u30, u31, u32, u33, u34, u35, u36, u37, u38, u39, u40, u41, u42, u43, u44, u45, u46, u47, u48, u49, u50, u51, u52, u53, u54, u55, u56, u57, u58, u59, u60, u61, u62, u63, u64, u65, u66, u67, u68, u69, u70, u71, u72, u73, u74, u75, u76, u77, .int .i64 j, .bool true, u80, u81, f 82, f 83, f 84, f 85, f 86, f 87, f 88, f 89, f 90, undef, undef, undef, undef, undef, undef, undef, undef, undef, undef, undef, undef, undef, undef, undef, undef, undef, undef, undef, undef, undef, undef, undef, undef, undef, undef, undef, undef, undef, undef, undef, undef, undef, undef, undef, undef, undef, undef, undef, undef, undef, undef, undef, undef, undef, undef, undef, undef, undef, undef, undef, undef]) (by kernel_rfl) (by kernel_rfl) (by kernel_rfl) (by kernel_rfl) (fun f => by kernel_rfl)
            ⟨by
              intro _ act W hS hun hd
              exact g_load4 rfl (hun 2 (by kernel_rfl)) (bC5.below hS bC5.lt) rfl,
            by
              intro _ act W hS hun hd
              exact g_move rfl (hun 10 (by kernel_rfl)),
            by
              intro _ act W hS hun hd
              exact g_conv8 hj2 rfl (hd 1 _ 83 rfl rfl (by kernel_rfl)) rfl,
            by
              intro _ act W hS hun hd
              have h82 : act.eval (.tmp 82) = .agg #[.int .u64 (wd s 0), .int .u64 (wd s 1), .int .u64 (wd s 2), .int .u64 (wd s 3)] := hd 0 _ 82 rfl rfl (by kernel_rfl)
              have h84 : act.eval (.tmp 84) = .int .u8 j := hd 2 _ 84 rfl rfl (by kernel_rfl)
              exact g_call (f := 17) rfl en17 (by simp only [List.map_toArray, List.map_cons, List.map_nil, h82, h84]) (has_as s j W hj2),
            by
              intro _ act W hS hun hd
              exact g_move rfl (hun 7 (by kernel_rfl)),
            by
              intro _ act W hS hun hd
              exact g_move rfl (hun 10 (by kernel_rfl)),
            by
              intro _ act W hS hun hd
              exact g_index49 hj2 rfl (hd 4 _ 86 rfl rfl (by kernel_rfl)) (hd 5 _ 87 rfl rfl (by kernel_rfl)) rfl,
            by
              intro _ act W hS hun hd
              exact g_loadb rfl (hd 6 _ 88 rfl rfl (by kernel_rfl)) ((hBo3.below hS hBo3.lt).cell hj2) rfl,
            by
              intro _ act W hS hun hd
              exact g_neqb rfl (hd 3 _ 85 rfl rfl (by kernel_rfl)) (hd 7 _ 89 rfl rfl (by kernel_rfl)) rfl,
            trivial⟩ ?_
          intro f W hW hf
          have h90 : f 90 = .bool false := hf 8 _ 90 rfl rfl
          rw [h90]
          have HW := Lib.hid hW
          clear hf hW
          go_wp2
          go_roundw
          case rel => exact ⟨j + 1, by omega, by go_num, HB3.out.trans (HW.out.mono HB3.out.size)⟩
          case measure => simp [intOf]; omega
        · obtain rfl : j = 256 := by omega
          have HTW := HT.out.below (B5.trans (HB3.out.mono B5.size))
          obtain ⟨⟨d0, d1, d2, d3⟩, _⟩ := bC5.four
          obtain ⟨GAP, FINX, hx256⟩ := next_facts s n
          have hnx := next_any s n
          obtain ⟨ok, hok⟩ : ∃ ok, ok = nextOk s n := ⟨_, rfl⟩
          obtain ⟨x, hxe⟩ : ∃ x, x = nextB s n := ⟨_, rfl⟩
          rw [← hok, ← hxe] at GAP FINX hnx
          rw [← hxe] at hx256
          have HG := Lib.hid GAP
          have HF := Lib.hid FINX
          have HFROM := Lib.hid (show ∀ i, i < 256 → fromS rs i = s i from fun i hi => (fromS_inRuns rs i).trans (HI.out.ins i hi))
          clear GAP FINX hok hxe
          have BW := B5.trans (HB3.out.mono B5.size)
          by_cases hn : 0 ≤ n
          · have hs0 := hn
            go_wp2_with (go_at_call 10; (with_reducible refine (hnx _ HTW).mono ?_); rintro e w4 ⟨rfl, hb4⟩; clear d0 d1 d2 d3)
            have HW4 := Lib.hid hb4
            have HBW4 := Lib.hid (BW.trans (hb4.mono BW.size))
            clear hb4
            obtain ⟨wv, rfl⟩ : ∃ wv : World, wv = wr := ⟨_, rfl⟩
            go_loopw [13] (fun v w5 => ∃ m : Nat, n ≤ (m : Int) ∧ v = .int .i64 m ∧ w5 = w4) (fun v _ => 256 - (intOf v).toNat)
            case atStart => exact ⟨n.toNat, by omega, by rw [Int.toNat_of_nonneg hn], rfl⟩
            case round =>
              obtain ⟨m, hm, rfl, rfl⟩ := hrel
              have bC6 := bC5.below HW4.out bC5.lt
              have HWR := Lib.hid (HBL.out.trans ((HB3.out.trans (HW4.out.mono HB3.out.size)).mono HBL.out.size))
              have HWW := HBW4
              have hBo6 := hBo3.below HW4.out hBo3.lt
              cases ok with
              | true =>
                have hsx := (HF.out rfl).1
                have hnx2 := (HF.out rfl).2
                by_cases h1 : m < 256
                · have i1 : (m : Int) < 256 := by omega
                  by_cases h2 : m < x
                  · have i2 : (m : Int) < (x : Int) := by omega
                    have hc := (hBo6.cell h1).trans (by rw [HG.out m hm h1 (.inr h2)])
                    clear hBo6 bC6
                    go_wp2
                    go_roundw
                    case rel => exact ⟨m + 1, by omega, by go_num, (by first | rfl | trivial)⟩
                    case measure => simp [intOf]; omega
                  · have i2 : decide ((m : Int) < (x : Int)) = false := by simp; omega
                    have i2' : decide (m < x) = false := by simp; omega
                    go_wp2
                    refine wp_region_table [some ((.is (.slice ao' rs.length cap'))), some (.is (.agg #[.int .u64 (wd s 0), .int .u64 (wd s 1), .int .u64 (wd s 2), .int .u64 (wd s 3)])), some (.is (.agg #[.int .u64 (wd s 0), .int .u64 (wd s 1), .int .u64 (wd s 2), .int .u64 (wd s 3)])), some (.is (.bool true)), some (.is (.bool true)), some (.is (.agg #[.int .u64 (wd s 0), .int .u64 (wd s 1), .int .u64 (wd s 2), .int .u64 (wd s 3)])), some (.is (.int .i64 ((cntN s 256 : Nat) : Int))), some (.is (.int .i64 ((cntN s 256 : Nat) : Int))), some (.is (.bool true)), some (.is (.bool true)), some (.is (.bool true)), some (.is (.bool true)), some (.is (.bool false)), some (.is (.bool false)), some ((.is (.slice (some ⟨w2.heap.size, 0, none⟩) 256 256))), some ((.is (.int .u8 x))), some ((.is (.pointer (some ⟨w2.heap.size, x, none⟩)))), some (.is (.bool true)), some (.is (.bool true)), some ((.is (.int .u8 x))), some (.is (.int .i64 ((x : Nat) : Int))), some (.is (.int .i64 n)), some (.is (.bool true)), some (.is (.bool true)), some (.is (.bool true)), some (.is (.bool true)), some (.is (.bool true))] (by kernel_rfl) (by kernel_rfl) (by kernel_rfl) (by kernel_rfl)
                      ⟨by
                          intro _ act W hS hun hd
                          exact g_move rfl (hun 5 (by kernel_rfl)),
                        by
                          intro _ act W hS hun hd
                          have h117 : act.eval (.tmp 117) = .slice ao' rs.length cap' := hd 0 _ 117 rfl rfl (by kernel_rfl)
                          exact g_call (f := 30) rfl en30 (by simp only [List.map_toArray, List.map_cons, List.map_nil, h117]) (from_as rs _ s HFROM.out W (HRUN.out.below (HWR.out.trans (hS.mono HWR.out.size)) (HWR.out.trans (hS.mono HWR.out.size)).size) HS.out),
                        by
                          intro _ act W hS hun hd
                          exact g_load4 rfl (hun 2 (by kernel_rfl)) (bC6.below hS bC6.lt) rfl,
                        by
                          intro _ act W hS hun hd
                          have h118 : act.eval (.tmp 118) = .agg #[.int .u64 (wd s 0), .int .u64 (wd s 1), .int .u64 (wd s 2), .int .u64 (wd s 3)] := hd 1 _ 118 rfl rfl (by kernel_rfl)
                          have h119 : act.eval (.tmp 119) = .agg #[.int .u64 (wd s 0), .int .u64 (wd s 1), .int .u64 (wd s 2), .int .u64 (wd s 3)] := hd 2 _ 119 rfl rfl (by kernel_rfl)
                          exact g_eql25 rfl h118 h119 rfl,
                        by
                          intro _ act W hS hun hd
                          have h120 : act.eval (.tmp 120) = .bool true := hd 3 _ 120 rfl rfl (by kernel_rfl)
                          exact g_move rfl h120,
                        by
                          intro _ act W hS hun hd
                          exact g_load4 rfl (hun 2 (by kernel_rfl)) (bC6.below hS bC6.lt) rfl,
                        by
                          intro _ act W hS hun hd
                          have h122 : act.eval (.tmp 122) = .agg #[.int .u64 (wd s 0), .int .u64 (wd s 1), .int .u64 (wd s 2), .int .u64 (wd s 3)] := hd 5 _ 122 rfl rfl (by kernel_rfl)
                          exact g_call (f := 19) rfl en19 (by simp only [List.map_toArray, List.map_cons, List.map_nil, h122]) (len_as s _ rfl W),
                        by
                          intro _ act W hS hun hd
                          exact g_move rfl (hun 6 (by kernel_rfl)),
                        by
                          intro _ act W hS hun hd
                          have h123 : act.eval (.tmp 123) = .int .i64 ((cntN s 256 : Nat) : Int) := hd 6 _ 123 rfl rfl (by kernel_rfl)
                          have h124 : act.eval (.tmp 124) = .int .i64 ((cntN s 256 : Nat) : Int) := hd 7 _ 124 rfl rfl (by kernel_rfl)
                          exact g_eqli rfl h123 h124 (by simp) rfl,
                        by
                          intro _ act W hS hun hd
                          have h121 : act.eval (.tmp 121) = .bool true := hd 4 _ 121 rfl rfl (by kernel_rfl)
                          have h125 : act.eval (.tmp 125) = .bool true := hd 8 _ 125 rfl rfl (by kernel_rfl)
                          exact g_pick rfl h121 h125 rfl,
                        by
                          intro _ act W hS hun hd
                          have h126 : act.eval (.tmp 126) = .bool true := hd 9 _ 126 rfl rfl (by kernel_rfl)
                          exact g_move rfl h126,
                        by
                          intro _ act W hS hun hd
                          exact g_move rfl (hun 12 (by kernel_rfl)),
                        by
                          intro _ act W hS hun hd
                          have h128 : act.eval (.tmp 128) = .bool true := hd 11 _ 128 rfl rfl (by kernel_rfl)
                          exact g_not rfl h128 rfl,
                        by
                          intro _ act W hS hun hd
                          have h129 : act.eval (.tmp 129) = .bool false := hd 12 _ 129 rfl rfl (by kernel_rfl)
                          exact g_move rfl h129,
                        by
                          intro _ act W hS hun hd
                          exact g_move rfl (hun 7 (by kernel_rfl)),
                        by
                          intro _ act W hS hun hd
                          exact g_move rfl (hun 11 (by kernel_rfl)),
                        by
                          intro _ act W hS hun hd
                          exact g_index49u hx256 rfl (hd 14 _ 131 rfl rfl (by kernel_rfl)) (hd 15 _ 132 rfl rfl (by kernel_rfl)) rfl,
                        by
                          intro _ act W hS hun hd
                          exact g_loadb rfl (hd 16 _ 133 rfl rfl (by kernel_rfl)) (((hBo6.below hS hBo6.lt).cell hx256).trans (by rw [hsx])) rfl,
                        by
                          intro _ act W hS hun hd
                          have h134 : act.eval (.tmp 134) = .bool true := hd 17 _ 134 rfl rfl (by kernel_rfl)
                          exact g_move rfl h134,
                        by
                          intro _ act W hS hun hd
                          exact g_move rfl (hun 11 (by kernel_rfl)),
                        by
                          intro _ act W hS hun hd
                          exact g_conv83 hx256 rfl (hd 19 _ 136 rfl rfl (by kernel_rfl)) rfl,
                        by
                          intro _ act W hS hun hd
                          exact g_move rfl (hun 1 (by kernel_rfl)),
                        by
                          intro _ act W hS hun hd
                          have h137 : act.eval (.tmp 137) = .int .i64 ((x : Nat) : Int) := hd 20 _ 137 rfl rfl (by kernel_rfl)
                          have h138 : act.eval (.tmp 138) = .int .i64 n := hd 21 _ 138 rfl rfl (by kernel_rfl)
                          exact g_geqi rfl h137 h138 (by simp; omega) rfl,
                        by
                          intro _ act W hS hun hd
                          have h135 : act.eval (.tmp 135) = .bool true := hd 18 _ 135 rfl rfl (by kernel_rfl)
                          have h139 : act.eval (.tmp 139) = .bool true := hd 22 _ 139 rfl rfl (by kernel_rfl)
                          exact g_pick rfl h135 h139 rfl,
                        by
                          intro _ act W hS hun hd
                          have h130 : act.eval (.tmp 130) = .bool false := hd 13 _ 130 rfl rfl (by kernel_rfl)
                          have h140 : act.eval (.tmp 140) = .bool true := hd 23 _ 140 rfl rfl (by kernel_rfl)
                          exact g_pick rfl h130 h140 rfl,
                        by
                          intro _ act W hS hun hd
                          have h127 : act.eval (.tmp 127) = .bool true := hd 10 _ 127 rfl rfl (by kernel_rfl)
                          have h141 : act.eval (.tmp 141) = .bool true := hd 24 _ 141 rfl rfl (by kernel_rfl)
                          exact g_pick rfl h127 h141 rfl,
                        by
                          intro _ act W hS hun hd
                          have h142 : act.eval (.tmp 142) = .bool true := hd 25 _ 142 rfl rfl (by kernel_rfl)
                          exact g_assign rfl h142,
                        trivial⟩ ?_
                    rintro ⟨tmps, defers⟩ W hW hz hd hf hr
                    dsimp only at hz hd hf hr
                    subst hd
                    have h4 : tmps.getD 4 undef = .bool true := hf 26 _ 4 rfl rfl
                    have hBW := HWW.out.trans (hW.mono HWW.out.size)
                    clear hf hr hW
                    go_wp2_with fail
                    go_ret
                    exact ⟨congrArg Ending.returned h4, hBW⟩
                · have i1 : decide ((m : Int) < 256) = false := by simp; omega
                  have i1' : decide (m < 256) = false := by simp; omega
                  go_wp2
                  refine wp_region_table [some ((.is (.slice ao' rs.length cap'))), some (.is (.agg #[.int .u64 (wd s 0), .int .u64 (wd s 1), .int .u64 (wd s 2), .int .u64 (wd s 3)])), some (.is (.agg #[.int .u64 (wd s 0), .int .u64 (wd s 1), .int .u64 (wd s 2), .int .u64 (wd s 3)])), some (.is (.bool true)), some (.is (.bool true)), some (.is (.agg #[.int .u64 (wd s 0), .int .u64 (wd s 1), .int .u64 (wd s 2), .int .u64 (wd s 3)])), some (.is (.int .i64 ((cntN s 256 : Nat) : Int))), some (.is (.int .i64 ((cntN s 256 : Nat) : Int))), some (.is (.bool true)), some (.is (.bool true)), some (.is (.bool true)), some (.is (.bool true)), some (.is (.bool false)), some (.is (.bool false)), some ((.is (.slice (some ⟨w2.heap.size, 0, none⟩) 256 256))), some ((.is (.int .u8 x))), some ((.is (.pointer (some ⟨w2.heap.size, x, none⟩)))), some (.is (.bool true)), some (.is (.bool true)), some ((.is (.int .u8 x))), some (.is (.int .i64 ((x : Nat) : Int))), some (.is (.int .i64 n)), some (.is (.bool true)), some (.is (.bool true)), some (.is (.bool true)), some (.is (.bool true)), some (.is (.bool true))] (by kernel_rfl) (by kernel_rfl) (by kernel_rfl) (by kernel_rfl)
                    ⟨by
                        intro _ act W hS hun hd
                        exact g_move rfl (hun 5 (by kernel_rfl)),
                      by
                        intro _ act W hS hun hd
                        have h117 : act.eval (.tmp 117) = .slice ao' rs.length cap' := hd 0 _ 117 rfl rfl (by kernel_rfl)
                        exact g_call (f := 30) rfl en30 (by simp only [List.map_toArray, List.map_cons, List.map_nil, h117]) (from_as rs _ s HFROM.out W (HRUN.out.below (HWR.out.trans (hS.mono HWR.out.size)) (HWR.out.trans (hS.mono HWR.out.size)).size) HS.out),
                      by
                        intro _ act W hS hun hd
                        exact g_load4 rfl (hun 2 (by kernel_rfl)) (bC6.below hS bC6.lt) rfl,
                      by
                        intro _ act W hS hun hd
                        have h118 : act.eval (.tmp 118) = .agg #[.int .u64 (wd s 0), .int .u64 (wd s 1), .int .u64 (wd s 2), .int .u64 (wd s 3)] := hd 1 _ 118 rfl rfl (by kernel_rfl)
                        have h119 : act.eval (.tmp 119) = .agg #[.int .u64 (wd s 0), .int .u64 (wd s 1), .int .u64 (wd s 2), .int .u64 (wd s 3)] := hd 2 _ 119 rfl rfl (by kernel_rfl)
                        exact g_eql25 rfl h118 h119 rfl,
                      by
                        intro _ act W hS hun hd
                        have h120 : act.eval (.tmp 120) = .bool true := hd 3 _ 120 rfl rfl (by kernel_rfl)
                        exact g_move rfl h120,
                      by
                        intro _ act W hS hun hd
                        exact g_load4 rfl (hun 2 (by kernel_rfl)) (bC6.below hS bC6.lt) rfl,
                      by
                        intro _ act W hS hun hd
                        have h122 : act.eval (.tmp 122) = .agg #[.int .u64 (wd s 0), .int .u64 (wd s 1), .int .u64 (wd s 2), .int .u64 (wd s 3)] := hd 5 _ 122 rfl rfl (by kernel_rfl)
                        exact g_call (f := 19) rfl en19 (by simp only [List.map_toArray, List.map_cons, List.map_nil, h122]) (len_as s _ rfl W),
                      by
                        intro _ act W hS hun hd
                        exact g_move rfl (hun 6 (by kernel_rfl)),
                      by
                        intro _ act W hS hun hd
                        have h123 : act.eval (.tmp 123) = .int .i64 ((cntN s 256 : Nat) : Int) := hd 6 _ 123 rfl rfl (by kernel_rfl)
                        have h124 : act.eval (.tmp 124) = .int .i64 ((cntN s 256 : Nat) : Int) := hd 7 _ 124 rfl rfl (by kernel_rfl)
                        exact g_eqli rfl h123 h124 (by simp) rfl,
                      by
                        intro _ act W hS hun hd
                        have h121 : act.eval (.tmp 121) = .bool true := hd 4 _ 121 rfl rfl (by kernel_rfl)
                        have h125 : act.eval (.tmp 125) = .bool true := hd 8 _ 125 rfl rfl (by kernel_rfl)
                        exact g_pick rfl h121 h125 rfl,
                      by
                        intro _ act W hS hun hd
                        have h126 : act.eval (.tmp 126) = .bool true := hd 9 _ 126 rfl rfl (by kernel_rfl)
                        exact g_move rfl h126,
                      by
                        intro _ act W hS hun hd
                        exact g_move rfl (hun 12 (by kernel_rfl)),
                      by
                        intro _ act W hS hun hd
                        have h128 : act.eval (.tmp 128) = .bool true := hd 11 _ 128 rfl rfl (by kernel_rfl)
                        exact g_not rfl h128 rfl,
                      by
                        intro _ act W hS hun hd
                        have h129 : act.eval (.tmp 129) = .bool false := hd 12 _ 129 rfl rfl (by kernel_rfl)
                        exact g_move rfl h129,
                      by
                        intro _ act W hS hun hd
                        exact g_move rfl (hun 7 (by kernel_rfl)),
                      by
                        intro _ act W hS hun hd
                        exact g_move rfl (hun 11 (by kernel_rfl)),
                      by
                        intro _ act W hS hun hd
                        exact g_index49u hx256 rfl (hd 14 _ 131 rfl rfl (by kernel_rfl)) (hd 15 _ 132 rfl rfl (by kernel_rfl)) rfl,
                      by
                        intro _ act W hS hun hd
                        exact g_loadb rfl (hd 16 _ 133 rfl rfl (by kernel_rfl)) (((hBo6.below hS hBo6.lt).cell hx256).trans (by rw [hsx])) rfl,
                      by
                        intro _ act W hS hun hd
                        have h134 : act.eval (.tmp 134) = .bool true := hd 17 _ 134 rfl rfl (by kernel_rfl)
                        exact g_move rfl h134,
                      by
                        intro _ act W hS hun hd
                        exact g_move rfl (hun 11 (by kernel_rfl)),
                      by
                        intro _ act W hS hun hd
                        exact g_conv83 hx256 rfl (hd 19 _ 136 rfl rfl (by kernel_rfl)) rfl,
                      by
                        intro _ act W hS hun hd
                        exact g_move rfl (hun 1 (by kernel_rfl)),
                      by
                        intro _ act W hS hun hd
                        have h137 : act.eval (.tmp 137) = .int .i64 ((x : Nat) : Int) := hd 20 _ 137 rfl rfl (by kernel_rfl)
                        have h138 : act.eval (.tmp 138) = .int .i64 n := hd 21 _ 138 rfl rfl (by kernel_rfl)
                        exact g_geqi rfl h137 h138 (by simp; omega) rfl,
                      by
                        intro _ act W hS hun hd
                        have h135 : act.eval (.tmp 135) = .bool true := hd 18 _ 135 rfl rfl (by kernel_rfl)
                        have h139 : act.eval (.tmp 139) = .bool true := hd 22 _ 139 rfl rfl (by kernel_rfl)
                        exact g_pick rfl h135 h139 rfl,
                      by
                        intro _ act W hS hun hd
                        have h130 : act.eval (.tmp 130) = .bool false := hd 13 _ 130 rfl rfl (by kernel_rfl)
                        have h140 : act.eval (.tmp 140) = .bool true := hd 23 _ 140 rfl rfl (by kernel_rfl)
                        exact g_pick rfl h130 h140 rfl,
                      by
                        intro _ act W hS hun hd
                        have h127 : act.eval (.tmp 127) = .bool true := hd 10 _ 127 rfl rfl (by kernel_rfl)
                        have h141 : act.eval (.tmp 141) = .bool true := hd 24 _ 141 rfl rfl (by kernel_rfl)
                        exact g_pick rfl h127 h141 rfl,
                      by
                        intro _ act W hS hun hd
                        have h142 : act.eval (.tmp 142) = .bool true := hd 25 _ 142 rfl rfl (by kernel_rfl)
                        exact g_assign rfl h142,
                      trivial⟩ ?_
                  rintro ⟨tmps, defers⟩ W hW hz hd hf hr
                  dsimp only at hz hd hf hr
                  subst hd
                  have h4 : tmps.getD 4 undef = .bool true := hf 26 _ 4 rfl rfl
                  have hBW := HWW.out.trans (hW.mono HWW.out.size)
                  clear hf hr hW
                  go_wp2_with fail
                  go_ret
                  exact ⟨congrArg Ending.returned h4, hBW⟩
              | false =>
                by_cases h1 : m < 256
                · have i1 : (m : Int) < 256 := by omega
                  have hc := (hBo6.cell h1).trans (by rw [HG.out m hm h1 (.inl rfl)])
                  clear hBo6 bC6
                  go_wp2
                  go_roundw
                  case rel => exact ⟨m + 1, by omega, by go_num, (by first | rfl | trivial)⟩
                  case measure => simp [intOf]; omega
                · have i1 : decide ((m : Int) < 256) = false := by simp; omega
                  have i1' : decide (m < 256) = false := by simp; omega
                  go_wp2
                  refine wp_region_table [some ((.is (.slice ao' rs.length cap'))), some (.is (.agg #[.int .u64 (wd s 0), .int .u64 (wd s 1), .int .u64 (wd s 2), .int .u64 (wd s 3)])), some (.is (.agg #[.int .u64 (wd s 0), .int .u64 (wd s 1), .int .u64 (wd s 2), .int .u64 (wd s 3)])), some (.is (.bool true)), some (.is (.bool true)), some (.is (.agg #[.int .u64 (wd s 0), .int .u64 (wd s 1), .int .u64 (wd s 2), .int .u64 (wd s 3)])), some (.is (.int .i64 ((cntN s 256 : Nat) : Int))), some (.is (.int .i64 ((cntN s 256 : Nat) : Int))), some (.is (.bool true)), some (.is (.bool true)), some (.is (.bool true)), some (.is (.bool false)), some (.is (.bool true)), some (.is (.bool true)), none, none, none, none, none, none, none, none, none, none, some (.is (.bool true)), some (.is (.bool true)), some (.is (.bool true))] (by kernel_rfl) (by kernel_rfl) (by kernel_rfl) (by kernel_rfl)
                    ⟨by
                        intro _ act W hS hun hd
                        exact g_move rfl (hun 5 (by kernel_rfl)),
                      by
                        intro _ act W hS hun hd
                        have h117 : act.eval (.tmp 117) = .slice ao' rs.length cap' := hd 0 _ 117 rfl rfl (by kernel_rfl)
                        exact g_call (f := 30) rfl en30 (by simp only [List.map_toArray, List.map_cons, List.map_nil, h117]) (from_as rs _ s HFROM.out W (HRUN.out.below (HWR.out.trans (hS.mono HWR.out.size)) (HWR.out.trans (hS.mono HWR.out.size)).size) HS.out),
                      by
                        intro _ act W hS hun hd
                        exact g_load4 rfl (hun 2 (by kernel_rfl)) (bC6.below hS bC6.lt) rfl,
                      by
                        intro _ act W hS hun hd
                        have h118 : act.eval (.tmp 118) = .agg #[.int .u64 (wd s 0), .int .u64 (wd s 1), .int .u64 (wd s 2), .int .u64 (wd s 3)] := hd 1 _ 118 rfl rfl (by kernel_rfl)
                        have h119 : act.eval (.tmp 119) = .agg #[.int .u64 (wd s 0), .int .u64 (wd s 1), .int .u64 (wd s 2), .int .u64 (wd s 3)] := hd 2 _ 119 rfl rfl (by kernel_rfl)
                        exact g_eql25 rfl h118 h119 rfl,
                      by
                        intro _ act W hS hun hd
                        have h120 : act.eval (.tmp 120) = .bool true := hd 3 _ 120 rfl rfl (by kernel_rfl)
                        exact g_move rfl h120,
                      by
                        intro _ act W hS hun hd
                        exact g_load4 rfl (hun 2 (by kernel_rfl)) (bC6.below hS bC6.lt) rfl,
                      by
                        intro _ act W hS hun hd
                        have h122 : act.eval (.tmp 122) = .agg #[.int .u64 (wd s 0), .int .u64 (wd s 1), .int .u64 (wd s 2), .int .u64 (wd s 3)] := hd 5 _ 122 rfl rfl (by kernel_rfl)
                        exact g_call (f := 19) rfl en19 (by simp only [List.map_toArray, List.map_cons, List.map_nil, h122]) (len_as s _ rfl W),
                      by
                        intro _ act W hS hun hd
                        exact g_move rfl (hun 6 (by kernel_rfl)),
                      by
                        intro _ act W hS hun hd
                        have h123 : act.eval (.tmp 123) = .int .i64 ((cntN s 256 : Nat) : Int) := hd 6 _ 123 rfl rfl (by kernel_rfl)
                        have h124 : act.eval (.tmp 124) = .int .i64 ((cntN s 256 : Nat) : Int) := hd 7 _ 124 rfl rfl (by kernel_rfl)
                        exact g_eqli rfl h123 h124 (by simp) rfl,
                      by
                        intro _ act W hS hun hd
                        have h121 : act.eval (.tmp 121) = .bool true := hd 4 _ 121 rfl rfl (by kernel_rfl)
                        have h125 : act.eval (.tmp 125) = .bool true := hd 8 _ 125 rfl rfl (by kernel_rfl)
                        exact g_pick rfl h121 h125 rfl,
                      by
                        intro _ act W hS hun hd
                        have h126 : act.eval (.tmp 126) = .bool true := hd 9 _ 126 rfl rfl (by kernel_rfl)
                        exact g_move rfl h126,
                      by
                        intro _ act W hS hun hd
                        exact g_move rfl (hun 12 (by kernel_rfl)),
                      by
                        intro _ act W hS hun hd
                        have h128 : act.eval (.tmp 128) = .bool false := hd 11 _ 128 rfl rfl (by kernel_rfl)
                        exact g_not rfl h128 rfl,
                      by
                        intro _ act W hS hun hd
                        have h129 : act.eval (.tmp 129) = .bool true := hd 12 _ 129 rfl rfl (by kernel_rfl)
                        exact g_move rfl h129,
                      fun h => Bool.noConfusion (show false = true from h),
                      fun h => Bool.noConfusion (show false = true from h),
                      fun h => Bool.noConfusion (show false = true from h),
                      fun h => Bool.noConfusion (show false = true from h),
                      fun h => Bool.noConfusion (show false = true from h),
                      fun h => Bool.noConfusion (show false = true from h),
                      fun h => Bool.noConfusion (show false = true from h),
                      fun h => Bool.noConfusion (show false = true from h),
                      fun h => Bool.noConfusion (show false = true from h),
                      fun h => Bool.noConfusion (show false = true from h),
                      by
                        intro _ act W hS hun hd
                        have h130 : act.eval (.tmp 130) = .bool true := hd 13 _ 130 rfl rfl (by kernel_rfl)
                        exact g_pick rfl h130 rfl rfl,
                      by
                        intro _ act W hS hun hd
                        have h127 : act.eval (.tmp 127) = .bool true := hd 10 _ 127 rfl rfl (by kernel_rfl)
                        have h141 : act.eval (.tmp 141) = .bool true := hd 24 _ 141 rfl rfl (by kernel_rfl)
                        exact g_pick rfl h127 h141 rfl,
                      by
                        intro _ act W hS hun hd
                        have h142 : act.eval (.tmp 142) = .bool true := hd 25 _ 142 rfl rfl (by kernel_rfl)
                        exact g_assign rfl h142,
                      trivial⟩ ?_
                  rintro ⟨tmps, defers⟩ W hW hz hd hf hr
                  dsimp only at hz hd hf hr
                  subst hd
                  have h4 : tmps.getD 4 undef = .bool true := hf 26 _ 4 rfl rfl
                  have hBW := HWW.out.trans (hW.mono HWW.out.size)
                  clear hf hr hW
                  go_wp2_with fail
                  go_ret
                  exact ⟨congrArg Ending.returned h4, hBW⟩
          · have hs0 : n < 0 := by omega
            go_wp2_with (go_at_call 10; (with_reducible refine (hnx _ HTW).mono ?_); rintro e w4 ⟨rfl, hb4⟩; clear d0 d1 d2 d3)
            have HW4 := Lib.hid hb4
            have HBW4 := Lib.hid (BW.trans (hb4.mono BW.size))
            clear hb4
            obtain ⟨wv, rfl⟩ : ∃ wv : World, wv = wr := ⟨_, rfl⟩
            go_loopw [13] (fun v w5 => ∃ m : Nat, n ≤ (m : Int) ∧ v = .int .i64 m ∧ w5 = w4) (fun v _ => 256 - (intOf v).toNat)
            case atStart => exact ⟨0, by omega, rfl, rfl⟩
            case round =>
              obtain ⟨m, hm, rfl, rfl⟩ := hrel
              have bC6 := bC5.below HW4.out bC5.lt
              have HWR := Lib.hid (HBL.out.trans ((HB3.out.trans (HW4.out.mono HB3.out.size)).mono HBL.out.size))
              have HWW := HBW4
              have hBo6 := hBo3.below HW4.out hBo3.lt
              cases ok with
              | true =>
                have hsx := (HF.out rfl).1
                have hnx2 := (HF.out rfl).2
                by_cases h1 : m < 256
                · have i1 : (m : Int) < 256 := by omega
                  by_cases h2 : m < x
                  · have i2 : (m : Int) < (x : Int) := by omega
                    have hc := (hBo6.cell h1).trans (by rw [HG.out m hm h1 (.inr h2)])
                    clear hBo6 bC6
                    go_wp2
                    go_roundw
                    case rel => exact ⟨m + 1, by omega, by go_num, (by first | rfl | trivial)⟩
                    case measure => simp [intOf]; omega
                  · have i2 : decide ((m : Int) < (x : Int)) = false := by simp; omega
                    have i2' : decide (m < x) = false := by simp; omega
                    go_wp2
                    refine wp_region_table [some ((.is (.slice ao' rs.length cap'))), some (.is (.agg #[.int .u64 (wd s 0), .int .u64 (wd s 1), .int .u64 (wd s 2), .int .u64 (wd s 3)])), some (.is (.agg #[.int .u64 (wd s 0), .int .u64 (wd s 1), .int .u64 (wd s 2), .int .u64 (wd s 3)])), some (.is (.bool true)), some (.is (.bool true)), some (.is (.agg #[.int .u64 (wd s 0), .int .u64 (wd s 1), .int .u64 (wd s 2), .int .u64 (wd s 3)])), some (.is (.int .i64 ((cntN s 256 : Nat) : Int))), some (.is (.int .i64 ((cntN s 256 : Nat) : Int))), some (.is (.bool true)), some (.is (.bool true)), some (.is (.bool true)), some (.is (.bool true)), some (.is (.bool false)), some (.is (.bool false)), some ((.is (.slice (some ⟨w2.heap.size, 0, none⟩) 256 256))), some ((.is (.int .u8 x))), some ((.is (.pointer (some ⟨w2.heap.size, x, none⟩)))), some (.is (.bool true)), some (.is (.bool true)), some ((.is (.int .u8 x))), some (.is (.int .i64 ((x : Nat) : Int))), some (.is (.int .i64 n)), some (.is (.bool true)), some (.is (.bool true)), some (.is (.bool true)), some (.is (.bool true)), some (.is (.bool true))] (by kernel_rfl) (by kernel_rfl) (by kernel_rfl) (by kernel_rfl)
                      ⟨by
                          intro _ act W hS hun hd
                          exact g_move rfl (hun 5 (by kernel_rfl)),
                        by
                          intro _ act W hS hun hd
                          have h117 : act.eval (.tmp 117) = .slice ao' rs.length cap' := hd 0 _ 117 rfl rfl (by kernel_rfl)
                          exact g_call (f := 30) rfl en30 (by simp only [List.map_toArray, List.map_cons, List.map_nil, h117]) (from_as rs _ s HFROM.out W (HRUN.out.below (HWR.out.trans (hS.mono HWR.out.size)) (HWR.out.trans (hS.mono HWR.out.size)).size) HS.out),
                        by
                          intro _ act W hS hun hd
                          exact g_load4 rfl (hun 2 (by kernel_rfl)) (bC6.below hS bC6.lt) rfl,
                        by
                          intro _ act W hS hun hd
                          have h118 : act.eval (.tmp 118) = .agg #[.int .u64 (wd s 0), .int .u64 (wd s 1), .int .u64 (wd s 2), .int .u64 (wd s 3)] := hd 1 _ 118 rfl rfl (by kernel_rfl)
                          have h119 : act.eval (.tmp 119) = .agg #[.int .u64 (wd s 0), .int .u64 (wd s 1), .int .u64 (wd s 2), .int .u64 (wd s 3)] := hd 2 _ 119 rfl rfl (by kernel_rfl)
                          exact g_eql25 rfl h118 h119 rfl,
                        by
                          intro _ act W hS hun hd
                          have h120 : act.eval (.tmp 120) = .bool true := hd 3 _ 120 rfl rfl (by kernel_rfl)
                          exact g_move rfl h120,
                        by
                          intro _ act W hS hun hd
                          exact g_load4 rfl (hun 2 (by kernel_rfl)) (bC6.below hS bC6.lt) rfl,
                        by
                          intro _ act W hS hun hd
                          have h122 : act.eval (.tmp 122) = .agg #[.int .u64 (wd s 0), .int .u64 (wd s 1), .int .u64 (wd s 2), .int .u64 (wd s 3)] := hd 5 _ 122 rfl rfl (by kernel_rfl)
                          exact g_call (f := 19) rfl en19 (by simp only [List.map_toArray, List.map_cons, List.map_nil, h122]) (len_as s _ rfl W),
                        by
                          intro _ act W hS hun hd
                          exact g_move rfl (hun 6 (by kernel_rfl)),
                        by
                          intro _ act W hS hun hd
                          have h123 : act.eval (.tmp 123) = .int .i64 ((cntN s 256 : Nat) : Int) := hd 6 _ 123 rfl rfl (by kernel_rfl)
                          have h124 : act.eval (.tmp 124) = .int .i64 ((cntN s 256 : Nat) : Int) := hd 7 _ 124 rfl rfl (by kernel_rfl)
                          exact g_eqli rfl h123 h124 (by simp) rfl,
                        by
                          intro _ act W hS hun hd
                          have h121 : act.eval (.tmp 121) = .bool true := hd 4 _ 121 rfl rfl (by kernel_rfl)
                          have h125 : act.eval (.tmp 125) = .bool true := hd 8 _ 125 rfl rfl (by kernel_rfl)
                          exact g_pick rfl h121 h125 rfl,
                        by
                          intro _ act W hS hun hd
                          have h126 : act.eval (.tmp 126) = .bool true := hd 9 _ 126 rfl rfl (by kernel_rfl)
                          exact g_move rfl h126,
                        by
                          intro _ act W hS hun hd
                          exact g_move rfl (hun 12 (by kernel_rfl)),
                        by
                          intro _ act W hS hun hd
                          have h128 : act.eval (.tmp 128) = .bool true := hd 11 _ 128 rfl rfl (by kernel_rfl)
                          exact g_not rfl h128 rfl,
                        by
                          intro _ act W hS hun hd
                          have h129 : act.eval (.tmp 129) = .bool false := hd 12 _ 129 rfl rfl (by kernel_rfl)
                          exact g_move rfl h129,
                        by
                          intro _ act W hS hun hd
                          exact g_move rfl (hun 7 (by kernel_rfl)),
                        by
                          intro _ act W hS hun hd
                          exact g_move rfl (hun 11 (by kernel_rfl)),
                        by
                          intro _ act W hS hun hd
                          exact g_index49u hx256 rfl (hd 14 _ 131 rfl rfl (by kernel_rfl)) (hd 15 _ 132 rfl rfl (by kernel_rfl)) rfl,
                        by
                          intro _ act W hS hun hd
                          exact g_loadb rfl (hd 16 _ 133 rfl rfl (by kernel_rfl)) (((hBo6.below hS hBo6.lt).cell hx256).trans (by rw [hsx])) rfl,
                        by
                          intro _ act W hS hun hd
                          have h134 : act.eval (.tmp 134) = .bool true := hd 17 _ 134 rfl rfl (by kernel_rfl)
                          exact g_move rfl h134,
                        by
                          intro _ act W hS hun hd
                          exact g_move rfl (hun 11 (by kernel_rfl)),
                        by
                          intro _ act W hS hun hd
                          exact g_conv83 hx256 rfl (hd 19 _ 136 rfl rfl (by kernel_rfl)) rfl,
                        by
                          intro _ act W hS hun hd
                          exact g_move rfl (hun 1 (by kernel_rfl)),
                        by
                          intro _ act W hS hun hd
                          have h137 : act.eval (.tmp 137) = .int .i64 ((x : Nat) : Int) := hd 20 _ 137 rfl rfl (by kernel_rfl)
                          have h138 : act.eval (.tmp 138) = .int .i64 n := hd 21 _ 138 rfl rfl (by kernel_rfl)
                          exact g_geqi rfl h137 h138 (by simp; omega) rfl,
                        by
                          intro _ act W hS hun hd
                          have h135 : act.eval (.tmp 135) = .bool true := hd 18 _ 135 rfl rfl (by kernel_rfl)
                          have h139 : act.eval (.tmp 139) = .bool true := hd 22 _ 139 rfl rfl (by kernel_rfl)
                          exact g_pick rfl h135 h139 rfl,
                        by
                          intro _ act W hS hun hd
                          have h130 : act.eval (.tmp 130) = .bool false := hd 13 _ 130 rfl rfl (by kernel_rfl)
                          have h140 : act.eval (.tmp 140) = .bool true := hd 23 _ 140 rfl rfl (by kernel_rfl)
                          exact g_pick rfl h130 h140 rfl,
                        by
                          intro _ act W hS hun hd
                          have h127 : act.eval (.tmp 127) = .bool true := hd 10 _ 127 rfl rfl (by kernel_rfl)
                          have h141 : act.eval (.tmp 141) = .bool true := hd 24 _ 141 rfl rfl (by kernel_rfl)
                          exact g_pick rfl h127 h141 rfl,
                        by
                          intro _ act W hS hun hd
                          have h142 : act.eval (.tmp 142) = .bool true := hd 25 _ 142 rfl rfl (by kernel_rfl)
                          exact g_assign rfl h142,
                        trivial⟩ ?_
                    rintro ⟨tmps, defers⟩ W hW hz hd hf hr
                    dsimp only at hz hd hf hr
                    subst hd
                    have h4 : tmps.getD 4 undef = .bool true := hf 26 _ 4 rfl rfl
                    have hBW := HWW.out.trans (hW.mono HWW.out.size)
                    clear hf hr hW
                    go_wp2_with fail
                    go_ret
                    exact ⟨congrArg Ending.returned h4, hBW⟩
                · have i1 : decide ((m : Int) < 256) = false := by simp; omega
                  have i1' : decide (m < 256) = false := by simp; omega
                  go_wp2
                  refine wp_region_table [some ((.is (.slice ao' rs.length cap'))), some (.is (.agg #[.int .u64 (wd s 0), .int .u64 (wd s 1), .int .u64 (wd s 2), .int .u64 (wd s 3)])), some (.is (.agg #[.int .u64 (wd s 0), .int .u64 (wd s 1), .int .u64 (wd s 2), .int .u64 (wd s 3)])), some (.is (.bool true)), some (.is (.bool true)), some (.is (.agg #[.int .u64 (wd s 0), .int .u64 (wd s 1), .int .u64 (wd s 2), .int .u64 (wd s 3)])), some (.is (.int .i64 ((cntN s 256 : Nat) : Int))), some (.is (.int .i64 ((cntN s 256 : Nat) : Int))), some (.is (.bool true)), some (.is (.bool true)), some (.is (.bool true)), some (.is (.bool true)), some (.is (.bool false)), some (.is (.bool false)), some ((.is (.slice (some ⟨w2.heap.size, 0, none⟩) 256 256))), some ((.is (.int .u8 x))), some ((.is (.pointer (some ⟨w2.heap.size, x, none⟩)))), some (.is (.bool true)), some (.is (.bool true)), some ((.is (.int .u8 x))), some (.is (.int .i64 ((x : Nat) : Int))), some (.is (.int .i64 n)), some (.is (.bool true)), some (.is (.bool true)), some (.is (.bool true)), some (.is (.bool true)), some (.is (.bool true))] (by kernel_rfl) (by kernel_rfl) (by kernel_rfl) (by kernel_rfl)
                    ⟨by
                        intro _ act W hS hun hd
                        exact g_move rfl (hun 5 (by kernel_rfl)),
                      by
                        intro _ act W hS hun hd
                        have h117 : act.eval (.tmp 117) = .slice ao' rs.length cap' := hd 0 _ 117 rfl rfl (by kernel_rfl)
                        exact g_call (f := 30) rfl en30 (by simp only [List.map_toArray, List.map_cons, List.map_nil, h117]) (from_as rs _ s HFROM.out W (HRUN.out.below (HWR.out.trans (hS.mono HWR.out.size)) (HWR.out.trans (hS.mono HWR.out.size)).size) HS.out),
                      by
                        intro _ act W hS hun hd
                        exact g_load4 rfl (hun 2 (by kernel_rfl)) (bC6.below hS bC6.lt) rfl,
                      by
                        intro _ act W hS hun hd
                        have h118 : act.eval (.tmp 118) = .agg #[.int .u64 (wd s 0), .int .u64 (wd s 1), .int .u64 (wd s 2), .int .u64 (wd s 3)] := hd 1 _ 118 rfl rfl (by kernel_rfl)
                        have h119 : act.eval (.tmp 119) = .agg #[.int .u64 (wd s 0), .int .u64 (wd s 1), .int .u64 (wd s 2), .int .u64 (wd s 3)] := hd 2 _ 119 rfl rfl (by kernel_rfl)
                        exact g_eql25 rfl h118 h119 rfl,
                      by
                        intro _ act W hS hun hd
                        have h120 : act.eval (.tmp 120) = .bool true := hd 3 _ 120 rfl rfl (by kernel_rfl)
                        exact g_move rfl h120,
                      by
                        intro _ act W hS hun hd
                        exact g_load4 rfl (hun 2 (by kernel_rfl)) (bC6.below hS bC6.lt) rfl,
                      by
                        intro _ act W hS hun hd
                        have h122 : act.eval (.tmp 122) = .agg #[.int .u64 (wd s 0), .int .u64 (wd s 1), .int .u64 (wd s 2), .int .u64 (wd s 3)] := hd 5 _ 122 rfl rfl (by kernel_rfl)
                        exact g_call (f := 19) rfl en19 (by simp only [List.map_toArray, List.map_cons, List.map_nil, h122]) (len_as s _ rfl W),
                      by
                        intro _ act W hS hun hd
                        exact g_move rfl (hun 6 (by kernel_rfl)),
                      by
                        intro _ act W hS hun hd
                        have h123 : act.eval (.tmp 123) = .int .i64 ((cntN s 256 : Nat) : Int) := hd 6 _ 123 rfl rfl (by kernel_rfl)
                        have h124 : act.eval (.tmp 124) = .int .i64 ((cntN s 256 : Nat) : Int) := hd 7 _ 124 rfl rfl (by kernel_rfl)
                        exact g_eqli rfl h123 h124 (by simp) rfl,
                      by
                        intro _ act W hS hun hd
                        have h121 : act.eval (.tmp 121) = .bool true := hd 4 _ 121 rfl rfl (by kernel_rfl)
                        have h125 : act.eval (.tmp 125) = .bool true := hd 8 _ 125 rfl rfl (by kernel_rfl)
                        exact g_pick rfl h121 h125 rfl,
                      by
                        intro _ act W hS hun hd
                        have h126 : act.eval (.tmp 126) = .bool true := hd 9 _ 126 rfl rfl (by kernel_rfl)
                        exact g_move rfl h126,
                      by
                        intro _ act W hS hun hd
                        exact g_move rfl (hun 12 (by kernel_rfl)),
                      by
                        intro _ act W hS hun hd
                        have h128 : act.eval (.tmp 128) = .bool true := hd 11 _ 128 rfl rfl (by kernel_rfl)
                        exact g_not rfl h128 rfl,
                      by
                        intro _ act W hS hun hd
                        have h129 : act.eval (.tmp 129) = .bool false := hd 12 _ 129 rfl rfl (by kernel_rfl)
                        exact g_move rfl h129,
                      by
                        intro _ act W hS hun hd
                        exact g_move rfl (hun 7 (by kernel_rfl)),
                      by
                        intro _ act W hS hun hd
                        exact g_move rfl (hun 11 (by kernel_rfl)),
                      by
                        intro _ act W hS hun hd
                        exact g_index49u hx256 rfl (hd 14 _ 131 rfl rfl (by kernel_rfl)) (hd 15 _ 132 rfl rfl (by kernel_rfl)) rfl,
                      by
                        intro _ act W hS hun hd
                        exact g_loadb rfl (hd 16 _ 133 rfl rfl (by kernel_rfl)) (((hBo6.below hS hBo6.lt).cell hx256).trans (by rw [hsx])) rfl,
                      by
                        intro _ act W hS hun hd
                        have h134 : act.eval (.tmp 134) = .bool true := hd 17 _ 134 rfl rfl (by kernel_rfl)
                        exact g_move rfl h134,
                      by
                        intro _ act W hS hun hd
                        exact g_move rfl (hun 11 (by kernel_rfl)),
                      by
                        intro _ act W hS hun hd
                        exact g_conv83 hx256 rfl (hd 19 _ 136 rfl rfl (by kernel_rfl)) rfl,
                      by
                        intro _ act W hS hun hd
                        exact g_move rfl (hun 1 (by kernel_rfl)),
                      by
                        intro _ act W hS hun hd
                        have h137 : act.eval (.tmp 137) = .int .i64 ((x : Nat) : Int) := hd 20 _ 137 rfl rfl (by kernel_rfl)
                        have h138 : act.eval (.tmp 138) = .int .i64 n := hd 21 _ 138 rfl rfl (by kernel_rfl)
                        exact g_geqi rfl h137 h138 (by simp; omega) rfl,
                      by
                        intro _ act W hS hun hd
                        have h135 : act.eval (.tmp 135) = .bool true := hd 18 _ 135 rfl rfl (by kernel_rfl)
                        have h139 : act.eval (.tmp 139) = .bool true := hd 22 _ 139 rfl rfl (by kernel_rfl)
                        exact g_pick rfl h135 h139 rfl,
                      by
                        intro _ act W hS hun hd
                        have h130 : act.eval (.tmp 130) = .bool false := hd 13 _ 130 rfl rfl (by kernel_rfl)
                        have h140 : act.eval (.tmp 140) = .bool true := hd 23 _ 140 rfl rfl (by kernel_rfl)
                        exact g_pick rfl h130 h140 rfl,
                      by
                        intro _ act W hS hun hd
                        have h127 : act.eval (.tmp 127) = .bool true := hd 10 _ 127 rfl rfl (by kernel_rfl)
                        have h141 : act.eval (.tmp 141) = .bool true := hd 24 _ 141 rfl rfl (by kernel_rfl)
                        exact g_pick rfl h127 h141 rfl,
                      by
                        intro _ act W hS hun hd
                        have h142 : act.eval (.tmp 142) = .bool true := hd 25 _ 142 rfl rfl (by kernel_rfl)
                        exact g_assign rfl h142,
                      trivial⟩ ?_
                  rintro ⟨tmps, defers⟩ W hW hz hd hf hr
                  dsimp only at hz hd hf hr
                  subst hd
                  have h4 : tmps.getD 4 undef = .bool true := hf 26 _ 4 rfl rfl
                  have hBW := HWW.out.trans (hW.mono HWW.out.size)
                  clear hf hr hW
                  go_wp2_with fail
                  go_ret
                  exact ⟨congrArg Ending.returned h4, hBW⟩
              | false =>
                by_cases h1 : m < 256
                · have i1 : (m : Int) < 256 := by omega
                  have hc := (hBo6.cell h1).trans (by rw [HG.out m hm h1 (.inl rfl)])
                  clear hBo6 bC6
                  go_wp2
                  go_roundw
                  case rel => exact ⟨m + 1, by omega, by go_num, (by first | rfl | trivial)⟩
                  case measure => simp [intOf]; omega
                · have i1 : decide ((m : Int) < 256) = false := by simp; omega
                  have i1' : decide (m < 256) = false := by simp; omega
                  go_wp2
                  refine wp_region_table [some ((.is (.slice ao' rs.length cap'))), some (.is (.agg #[.int .u64 (wd s 0), .int .u64 (wd s 1), .int .u64 (wd s 2), .int .u64 (wd s 3)])), some (.is (.agg #[.int .u64 (wd s 0), .int .u64 (wd s 1), .int .u64 (wd s 2), .int .u64 (wd s 3)])), some (.is (.bool true)), some (.is (.bool true)), some (.is (.agg #[.int .u64 (wd s 0), .int .u64 (wd s 1), .int .u64 (wd s 2), .int .u64 (wd s 3)])), some (.is (.int .i64 ((cntN s 256 : Nat) : Int))), some (.is (.int .i64 ((cntN s 256 : Nat) : Int))), some (.is (.bool true)), some (.is (.bool true)), some (.is (.bool true)), some (.is (.bool false)), some (.is (.bool true)), some (.is (.bool true)), none, none, none, none, none, none, none, none, none, none, some (.is (.bool true)), some (.is (.bool true)), some (.is (.bool true))] (by kernel_rfl) (by kernel_rfl) (by kernel_rfl) (by kernel_rfl)
                    ⟨by
                        intro _ act W hS hun hd
                        exact g_move rfl (hun 5 (by kernel_rfl)),
                      by
                        intro _ act W hS hun hd
                        have h117 : act.eval (.tmp 117) = .slice ao' rs.length cap' := hd 0 _ 117 rfl rfl (by kernel_rfl)
                        exact g_call (f := 30) rfl en30 (by simp only [List.map_toArray, List.map_cons, List.map_nil, h117]) (from_as rs _ s HFROM.out W (HRUN.out.below (HWR.out.trans (hS.mono HWR.out.size)) (HWR.out.trans (hS.mono HWR.out.size)).size) HS.out),
                      by
                        intro _ act W hS hun hd
                        exact g_load4 rfl (hun 2 (by kernel_rfl)) (bC6.below hS bC6.lt) rfl,
                      by
                        intro _ act W hS hun hd
                        have h118 : act.eval (.tmp 118) = .agg #[.int .u64 (wd s 0), .int .u64 (wd s 1), .int .u64 (wd s 2), .int .u64 (wd s 3)] := hd 1 _ 118 rfl rfl (by kernel_rfl)
                        have h119 : act.eval (.tmp 119) = .agg #[.int .u64 (wd s 0), .int .u64 (wd s 1), .int .u64 (wd s 2), .int .u64 (wd s 3)] := hd 2 _ 119 rfl rfl (by kernel_rfl)
                        exact g_eql25 rfl h118 h119 rfl,
                      by
                        intro _ act W hS hun hd
                        have h120 : act.eval (.tmp 120) = .bool true := hd 3 _ 120 rfl rfl (by kernel_rfl)
                        exact g_move rfl h120,
                      by
                        intro _ act W hS hun hd
                        exact g_load4 rfl (hun 2 (by kernel_rfl)) (bC6.below hS bC6.lt) rfl,
                      by
                        intro _ act W hS hun hd
                        have h122 : act.eval (.tmp 122) = .agg #[.int .u64 (wd s 0), .int .u64 (wd s 1), .int .u64 (wd s 2), .int .u64 (wd s 3)] := hd 5 _ 122 rfl rfl (by kernel_rfl)
                        exact g_call (f := 19) rfl en19 (by simp only [List.map_toArray, List.map_cons, List.map_nil, h122]) (len_as s _ rfl W),
                      by
                        intro _ act W hS hun hd
                        exact g_move rfl (hun 6 (by kernel_rfl)),
                      by
                        intro _ act W hS hun hd
                        have h123 : act.eval (.tmp 123) = .int .i64 ((cntN s 256 : Nat) : Int) := hd 6 _ 123 rfl rfl (by kernel_rfl)
                        have h124 : act.eval (.tmp 124) = .int .i64 ((cntN s 256 : Nat) : Int) := hd 7 _ 124 rfl rfl (by kernel_rfl)
                        exact g_eqli rfl h123 h124 (by simp) rfl,
                      by
                        intro _ act W hS hun hd
                        have h121 : act.eval (.tmp 121) = .bool true := hd 4 _ 121 rfl rfl (by kernel_rfl)
                        have h125 : act.eval (.tmp 125) = .bool true := hd 8 _ 125 rfl rfl (by kernel_rfl)
                        exact g_pick rfl h121 h125 rfl,
                      by
                        intro _ act W hS hun hd
                        have h126 : act.eval (.tmp 126) = .bool true := hd 9 _ 126 rfl rfl (by kernel_rfl)
                        exact g_move rfl h126,
                      by
                        intro _ act W hS hun hd
                        exact g_move rfl (hun 12 (by kernel_rfl)),
                      by
                        intro _ act W hS hun hd
                        have h128 : act.eval (.tmp 128) = .bool false := hd 11 _ 128 rfl rfl (by kernel_rfl)
                        exact g_not rfl h128 rfl,
                      by
                        intro _ act W hS hun hd
                        have h129 : act.eval (.tmp 129) = .bool true := hd 12 _ 129 rfl rfl (by kernel_rfl)
                        exact g_move rfl h129,
                      fun h => Bool.noConfusion (show false = true from h),
                      fun h => Bool.noConfusion (show false = true from h),
                      fun h => Bool.noConfusion (show false = true from h),
                      fun h => Bool.noConfusion (show false = true from h),
                      fun h => Bool.noConfusion (show false = true from h),
                      fun h => Bool.noConfusion (show false = true from h),
                      fun h => Bool.noConfusion (show false = true from h),
                      fun h => Bool.noConfusion (show false = true from h),
                      fun h => Bool.noConfusion (show false = true from h),
                      fun h => Bool.noConfusion (show false = true from h),
                      by
                        intro _ act W hS hun hd
                        have h130 : act.eval (.tmp 130) = .bool true := hd 13 _ 130 rfl rfl (by kernel_rfl)
                        exact g_pick rfl h130 rfl rfl,
                      by
                        intro _ act W hS hun hd
                        have h127 : act.eval (.tmp 127) = .bool true := hd 10 _ 127 rfl rfl (by kernel_rfl)
                        have h141 : act.eval (.tmp 141) = .bool true := hd 24 _ 141 rfl rfl (by kernel_rfl)
                        exact g_pick rfl h127 h141 rfl,
                      by
                        intro _ act W hS hun hd
                        have h142 : act.eval (.tmp 142) = .bool true := hd 25 _ 142 rfl rfl (by kernel_rfl)
                        exact g_assign rfl h142,
                      trivial⟩ ?_
                  rintro ⟨tmps, defers⟩ W hW hz hd hf hr
                  dsimp only at hz hd hf hr
                  subst hd
                  have h4 : tmps.getD 4 undef = .bool true := hf 26 _ 4 rfl rfl
                  have hBW := HWW.out.trans (hW.mono HWW.out.size)
                  clear hf hr hW
                  go_wp2_with fail
                  go_ret
                  exact ⟨congrArg Ending.returned h4, hBW⟩

end Go.Proofs.YtcnikeeapillnaaDoor

/- The law ClassRules. -/
import Derived.Test.YtcnikeeapillnaaDoorRi
namespace Go.Proofs.YtcnikeeapillnaaDoor
open Go Go.RowKit

theorem en24 : ∀ args w, (callFunc 24 args).run Tryd.prog w = .ok (.enter 24 args) w := enters_of Tryd.func24 (by kernel_rfl) rfl
theorem en26 : ∀ args w, (callFunc 26 args).run Tryd.prog w = .ok (.enter 26 args) w := enters_of Tryd.func26 (by kernel_rfl) rfl
theorem en28 : ∀ args w, (callFunc 28 args).run Tryd.prog w = .ok (.enter 28 args) w := enters_of Tryd.func28 (by kernel_rfl) rfl
theorem en19 : ∀ args w, (callFunc 19 args).run Tryd.prog w = .ok (.enter 19 args) w := enters_of Tryd.func19 (by kernel_rfl) rfl
theorem en15 : ∀ args w, (callFunc 15 args).run Tryd.prog w = .ok (.enter 15 args) w := enters_of Tryd.func15 (by kernel_rfl) rfl
theorem cls_congr {s t : Nat → Bool} (h : ∀ i, i < 256 → s i = t i) : (.agg #[.int .u64 (wd s 0), .int .u64 (wd s 1), .int .u64 (wd s 2), .int .u64 (wd s 3)] : Value) = .agg #[.int .u64 (wd t 0), .int .u64 (wd t 1), .int .u64 (wd t 2), .int .u64 (wd t 3)] := by
  rw [wd_eq_of_lt h (by decide : 0 < 4), wd_eq_of_lt h (by decide : 1 < 4), wd_eq_of_lt h (by decide : 2 < 4), wd_eq_of_lt h (by decide : 3 < 4)]
theorem not_as (s t : Nat → Bool) (h : ∀ i, i < 256 → (!s i) = t i) (w : World) :
    Calls Tryd.prog 24 #[.agg #[.int .u64 (wd s 0), .int .u64 (wd s 1), .int .u64 (wd s 2), .int .u64 (wd s 3)]] w fun e w' => ∃ v, e = .returned v ∧ Below w.heap.size w w' ∧ v = .agg #[.int .u64 (wd t 0), .int .u64 (wd t 1), .int .u64 (wd t 2), .int .u64 (wd t 3)] :=
  (not_any s w).mono fun _ _ ⟨he, hb⟩ => ⟨_, he, hb, cls_congr h⟩
theorem orf_as (v : Value) (ss : List (Nat → Bool)) (t : Nat → Bool) (h : ∀ i, i < 256 → anyS ss i = t i) (w : World) (hc : ClsAt w w.heap.size v ss) :
    Calls Tryd.prog 26 #[v] w fun e w' => ∃ v, e = .returned v ∧ Below w.heap.size w w' ∧ v = .agg #[.int .u64 (wd t 0), .int .u64 (wd t 1), .int .u64 (wd t 2), .int .u64 (wd t 3)] :=
  (orf_any v ss w hc).mono fun _ _ ⟨he, hb⟩ => ⟨_, he, hb, cls_congr h⟩
theorem andf_as (v : Value) (ss : List (Nat → Bool)) (t : Nat → Bool) (h : ∀ i, i < 256 → allS ss i = t i) (w : World) (hc : ClsAt w w.heap.size v ss) :
    Calls Tryd.prog 28 #[v] w fun e w' => ∃ v, e = .returned v ∧ Below w.heap.size w w' ∧ v = .agg #[.int .u64 (wd t 0), .int .u64 (wd t 1), .int .u64 (wd t 2), .int .u64 (wd t 3)] :=
  (andf_any v ss w hc).mono fun _ _ ⟨he, hb⟩ => ⟨_, he, hb, cls_congr h⟩
theorem len_as (s : Nat → Bool) (n : Int) (h : (cntN s 256 : Int) = n) (w : World) :
    Calls Tryd.prog 19 #[.agg #[.int .u64 (wd s 0), .int .u64 (wd s 1), .int .u64 (wd s 2), .int .u64 (wd s 3)]] w fun e w' => ∃ v, e = .returned v ∧ Below w.heap.size w w' ∧ v = .int .i64 n :=
  (len_any s w).mono fun _ _ ⟨he, hb⟩ => ⟨_, he, hb, by rw [h]⟩
theorem range_as (x y : Nat) (t : Nat → Bool) (h : ∀ i, i < 256 → rng x (y + 1) i = t i) (hx : x < 256) (hy : y < 256) (w : World) :
    Calls Tryd.prog 15 #[.int .u8 x, .int .u8 y] w fun e w' => ∃ v, e = .returned v ∧ Below w.heap.size w w' ∧ v = .agg #[.int .u64 (wd t 0), .int .u64 (wd t 1), .int .u64 (wd t 2), .int .u64 (wd t 3)] :=
  (range_any x y w hx hy).mono fun _ _ ⟨he, hb⟩ => ⟨_, he, hb, cls_congr h⟩
def clsSt (ss : List (Nat → Bool)) : Stay := ⟨fun v w => ClsAt w w.heap.size v ss, fun _ _ _ hb h => h.below hb hb.size⟩
theorem cnt_all : (cntN (fun _ => true) 256 : Int) = 256 := by decide +kernel
theorem g_neqi {a : Act} {w : World} {o : Oper} {Φ : Value → World → Prop} {x y : Operand} {t : TypeId} {m n : Int} {b : Bool} (ho : o.op = .binOp .neq 3 x y t) (hx : a.eval x = .int .i64 m) (hy : a.eval y = .int .i64 n) (hb : (m != n) = b) (h : Φ (.bool b) w) :
    Gives Tryd.prog (fun v w' => Below w.heap.size w w' ∧ Φ v w') ((execOp a.eval o).run Tryd.prog w) := by
  refine .value (v := .bool b) (w := w) ?_ ⟨Below.refl _ _, h⟩
  generalize a.eval = ρ at *
  simp only [execOp, ho, hx, hy]
  subst hb
  go_simp

theorem row_none' : (#[.int .u64 0, .int .u64 0, .int .u64 0, .int .u64 0] : Array Value) = #[.int .u64 (wd ((fun _ => false)) 0), .int .u64 (wd ((fun _ => false)) 1), .int .u64 (wd ((fun _ => false)) 2), .int .u64 (wd ((fun _ => false)) 3)] := by
  rw [wd_none, wd_none, wd_none, wd_none]; rfl
theorem not_zero (w : World) : Calls Tryd.prog 24 #[.agg #[.int .u64 0, .int .u64 0, .int .u64 0, .int .u64 0]] w fun e w' => e = .returned (.agg #[.int .u64 (wd ((fun _ => true)) 0), .int .u64 (wd ((fun _ => true)) 1), .int .u64 (wd ((fun _ => true)) 2), .int .u64 (wd ((fun _ => true)) 3)]) ∧ Below w.heap.size w w' := by
  rw [row_none']
  exact (not_any _ w).mono fun _ _ ⟨he, hb⟩ => ⟨by rw [he]; rfl, hb⟩
theorem g_addi {a : Act} {w : World} {o : Oper} {Φ : Value → World → Prop} {x y : Operand} {t : TypeId} {m n : Int} (ho : o.op = .binOp .add 3 x y t) (hx : a.eval x = .int .i64 m) (hy : a.eval y = .int .i64 n) (hb : -9223372036854775808 ≤ m + n ∧ m + n < 9223372036854775808) (h : Φ (.int .i64 (m + n)) w) :
    Gives Tryd.prog (fun v w' => Below w.heap.size w w' ∧ Φ v w') ((execOp a.eval o).run Tryd.prog w) := by
  refine .value (v := .int .i64 (m + n)) (w := w) ?_ ⟨Below.refl _ _, h⟩
  obtain ⟨h1, h2⟩ := hb
  have hw : IntKind.i64.wrap (m + n) = m + n := by rw [IntKind.wrap_i64]; omega
  generalize a.eval = ρ at *
  simp only [execOp, ho, hx, hy]
  go_simp
  try simp [hw]
theorem g_eqli {a : Act} {w : World} {o : Oper} {Φ : Value → World → Prop} {x y : Operand} {t : TypeId} {m n : Int} {b : Bool} (ho : o.op = .binOp .eql 3 x y t) (hx : a.eval x = .int .i64 m) (hy : a.eval y = .int .i64 n) (hb : (m == n) = b) (h : Φ (.bool b) w) :
    Gives Tryd.prog (fun v w' => Below w.heap.size w w' ∧ Φ v w') ((execOp a.eval o).run Tryd.prog w) := by
  refine .value (v := .bool b) (w := w) ?_ ⟨Below.refl _ _, h⟩
  generalize a.eval = ρ at *
  simp only [execOp, ho, hx, hy]
  subst hb
  go_simp
theorem cnt_orand' (a b : Nat → Bool) (n : Nat) : cntN a n + cntN b n = cntN (fun i => a i || b i) n + cntN (fun i => a i && b i) n := by
  induction n with
  | zero => rfl
  | succ n ih => simp only [cntN]; by_cases h1 : a n = true <;> by_cases h2 : b n = true <;> simp [h1, h2] <;> omega
theorem cnt_orand (a b : Nat → Bool) (n : Nat) : (cntN a n + cntN b n : Int) = cntN (fun i => a i || b i) n + cntN (fun i => a i && b i) n := by
  have := cnt_orand' a b n; omega
set_option maxRecDepth 100000 in
set_option maxHeartbeats 4000000 in
theorem rules_any (a b c : Nat → Bool) (w : World) (hT : Tab w) :
    Calls Tryd.prog 7 #[.agg #[.int .u64 (wd a 0), .int .u64 (wd a 1), .int .u64 (wd a 2), .int .u64 (wd a 3)], .agg #[.int .u64 (wd b 0), .int .u64 (wd b 1), .int .u64 (wd b 2), .int .u64 (wd b 3)], .agg #[.int .u64 (wd c 0), .int .u64 (wd c 1), .int .u64 (wd c 2), .int .u64 (wd c 3)]] w fun e w' => e = .returned (.bool true) ∧ Below w.heap.size w w' := by
  have HT := Lib.hid hT
  have hno0 := row_none'
  obtain ⟨no, hno⟩ : ∃ no : Nat → Bool, no = fun _ => false := ⟨_, rfl⟩
  rw [← hno] at hno0
  have HN := Lib.hid hno0
  have HNO := Lib.hid hno
  clear hno0 hno
  have hnz := not_zero
  obtain ⟨al, hal⟩ : ∃ al : Nat → Bool, al = fun _ => true := ⟨_, rfl⟩
  rw [← hal] at hnz
  have HAL := Lib.hid hal
  clear hT hal
  have B3 := below3 w (.cells #[.int .u64 (wd a 0), .int .u64 (wd a 1), .int .u64 (wd a 2), .int .u64 (wd a 3)] 25) (.cells #[.int .u64 (wd b 0), .int .u64 (wd b 1), .int .u64 (wd b 2), .int .u64 (wd b 3)] 25) (.cells #[.int .u64 (wd c 0), .int .u64 (wd c 1), .int .u64 (wd c 2), .int .u64 (wd c 3)] 25)
  have bA := ((Blk.new w #[.int .u64 (wd a 0), .int .u64 (wd a 1), .int .u64 (wd a 2), .int .u64 (wd a 3)] 25).alloc (.cells #[.int .u64 (wd b 0), .int .u64 (wd b 1), .int .u64 (wd b 2), .int .u64 (wd b 3)] 25)).alloc (.cells #[.int .u64 (wd c 0), .int .u64 (wd c 1), .int .u64 (wd c 2), .int .u64 (wd c 3)] 25)
  have bB := blk_mid w (.cells #[.int .u64 (wd a 0), .int .u64 (wd a 1), .int .u64 (wd a 2), .int .u64 (wd a 3)] 25) (.cells #[.int .u64 (wd c 0), .int .u64 (wd c 1), .int .u64 (wd c 2), .int .u64 (wd c 3)] 25) #[.int .u64 (wd b 0), .int .u64 (wd b 1), .int .u64 (wd b 2), .int .u64 (wd b 3)] 25
  have bC := blk_new1 (w.alloc (.cells #[.int .u64 (wd a 0), .int .u64 (wd a 1), .int .u64 (wd a 2), .int .u64 (wd a 3)] 25)) (.cells #[.int .u64 (wd b 0), .int .u64 (wd b 1), .int .u64 (wd b 2), .int .u64 (wd b 3)] 25) #[.int .u64 (wd c 0), .int .u64 (wd c 1), .int .u64 (wd c 2), .int .u64 (wd c 3)] 25
  rw [World.size_alloc] at bC
  go_enter Tryd.func7, Tryd.ntmps7
  go_wp2_with (first
    | (go_at_call 8; (with_reducible refine (awake_any _ (HT.out.below B3)).mono ?_); rintro e w1 ⟨rfl, hb1⟩; have B4 := B3.trans (hb1.mono B3.size); have bA1 := bA.below hb1 bA.lt; have bB1 := bB.below hb1 bB.lt; have bC1 := bC.below hb1 bC.lt; have bN := Blk.new w1 #[.int .u64 0, .int .u64 0, .int .u64 0, .int .u64 0] 25; have B5 := B4.alloc B4.size (.cells #[.int .u64 0, .int .u64 0, .int .u64 0, .int .u64 0] 25); have bA2 := bA1.alloc (.cells #[.int .u64 0, .int .u64 0, .int .u64 0, .int .u64 0] 25); have bB2 := bB1.alloc (.cells #[.int .u64 0, .int .u64 0, .int .u64 0, .int .u64 0] 25); have bC2 := bC1.alloc (.cells #[.int .u64 0, .int .u64 0, .int .u64 0, .int .u64 0] 25); clear hb1 bA bB bC bA1 bB1 bC1)
    | (go_at_call 24; (with_reducible refine (hnz _).mono ?_); rintro e w2 ⟨rfl, hb2⟩; have B6 := B5.trans (hb2.mono B5.size); have bA3 := bA2.below hb2 bA2.lt; have bB3 := bB2.below hb2 bB2.lt; have bC3 := bC2.below hb2 bC2.lt; have bN3 := bN.below hb2 bN.lt; clear hb2 bA2 bB2 bC2 bN))
  have bA := bA3.alloc (.cells #[.int .u64 (wd al 0), .int .u64 (wd al 1), .int .u64 (wd al 2), .int .u64 (wd al 3)] 25)
  have bB := bB3.alloc (.cells #[.int .u64 (wd al 0), .int .u64 (wd al 1), .int .u64 (wd al 2), .int .u64 (wd al 3)] 25)
  have bC := bC3.alloc (.cells #[.int .u64 (wd al 0), .int .u64 (wd al 1), .int .u64 (wd al 2), .int .u64 (wd al 3)] 25)
  have bN := bN3.alloc (.cells #[.int .u64 (wd al 0), .int .u64 (wd al 1), .int .u64 (wd al 2), .int .u64 (wd al 3)] 25)
  have bAll := Blk.new w2 #[.int .u64 (wd al 0), .int .u64 (wd al 1), .int .u64 (wd al 2), .int .u64 (wd al 3)] 25
  have B7 := B6.alloc B6.size (.cells #[.int .u64 (wd al 0), .int .u64 (wd al 1), .int .u64 (wd al 2), .int .u64 (wd al 3)] 25)
  rw [HN.out] at bN
  clear bA3 bB3 bC3 bN3 B3 B4 B5 B6
  refine wp_region_lay [some (.is (.agg #[.int .u64 (wd a 0), .int .u64 (wd a 1), .int .u64 (wd a 2), .int .u64 (wd a 3)])), some (.is (.agg #[.int .u64 (wd ((fun i => !a i)) 0), .int .u64 (wd ((fun i => !a i)) 1), .int .u64 (wd ((fun i => !a i)) 2), .int .u64 (wd ((fun i => !a i)) 3)])), some (.is (.agg #[.int .u64 (wd a 0), .int .u64 (wd a 1), .int .u64 (wd a 2), .int .u64 (wd a 3)])), some (.is (.agg #[.int .u64 (wd a 0), .int .u64 (wd a 1), .int .u64 (wd a 2), .int .u64 (wd a 3)])), some (.is (.bool false)), some (.is (.bool false)), some (.is (.agg #[.int .u64 (wd a 0), .int .u64 (wd a 1), .int .u64 (wd a 2), .int .u64 (wd a 3)])), some (.is (.agg #[.int .u64 (wd b 0), .int .u64 (wd b 1), .int .u64 (wd b 2), .int .u64 (wd b 3)])), some (.st (clsSt [a, b])), some (.is (.agg #[.int .u64 (wd ((fun i => a i || b i)) 0), .int .u64 (wd ((fun i => a i || b i)) 1), .int .u64 (wd ((fun i => a i || b i)) 2), .int .u64 (wd ((fun i => a i || b i)) 3)])), some (.is (.agg #[.int .u64 (wd ((fun i => !(a i || b i))) 0), .int .u64 (wd ((fun i => !(a i || b i))) 1), .int .u64 (wd ((fun i => !(a i || b i))) 2), .int .u64 (wd ((fun i => !(a i || b i))) 3)])), some (.is (.agg #[.int .u64 (wd a 0), .int .u64 (wd a 1), .int .u64 (wd a 2), .int .u64 (wd a 3)])), some (.is (.agg #[.int .u64 (wd ((fun i => !a i)) 0), .int .u64 (wd ((fun i => !a i)) 1), .int .u64 (wd ((fun i => !a i)) 2), .int .u64 (wd ((fun i => !a i)) 3)])), some (.is (.agg #[.int .u64 (wd b 0), .int .u64 (wd b 1), .int .u64 (wd b 2), .int .u64 (wd b 3)])), some (.is (.agg #[.int .u64 (wd ((fun i => !b i)) 0), .int .u64 (wd ((fun i => !b i)) 1), .int .u64 (wd ((fun i => !b i)) 2), .int .u64 (wd ((fun i => !b i)) 3)])), some (.st (clsSt [(fun i => !a i), (fun i => !b i)])), some (.is (.agg #[.int .u64 (wd ((fun i => !(a i || b i))) 0), .int .u64 (wd ((fun i => !(a i || b i))) 1), .int .u64 (wd ((fun i => !(a i || b i))) 2), .int .u64 (wd ((fun i => !(a i || b i))) 3)])), some (.is (.bool false)), some (.is (.bool false)), some (.is (.bool false)), some (.is (.agg #[.int .u64 (wd a 0), .int .u64 (wd a 1), .int .u64 (wd a 2), .int .u64 (wd a 3)])), some (.is (.agg #[.int .u64 (wd a 0), .int .u64 (wd a 1), .int .u64 (wd a 2), .int .u64 (wd a 3)])), some (.is (.agg #[.int .u64 (wd ((fun i => !a i)) 0), .int .u64 (wd ((fun i => !a i)) 1), .int .u64 (wd ((fun i => !a i)) 2), .int .u64 (wd ((fun i => !a i)) 3)])), some (.st (clsSt [a, (fun i => !a i)])), some (.is (.agg #[.int .u64 (wd no 0), .int .u64 (wd no 1), .int .u64 (wd no 2), .int .u64 (wd no 3)])), some (.is (.agg #[.int .u64 (wd no 0), .int .u64 (wd no 1), .int .u64 (wd no 2), .int .u64 (wd no 3)])), some (.is (.bool false)), some (.is (.bool false)), some (.is (.bool false)), some (.is (.agg #[.int .u64 (wd a 0), .int .u64 (wd a 1), .int .u64 (wd a 2), .int .u64 (wd a 3)])), some (.is (.agg #[.int .u64 (wd a 0), .int .u64 (wd a 1), .int .u64 (wd a 2), .int .u64 (wd a 3)])), some (.is (.agg #[.int .u64 (wd ((fun i => !a i)) 0), .int .u64 (wd ((fun i => !a i)) 1), .int .u64 (wd ((fun i => !a i)) 2), .int .u64 (wd ((fun i => !a i)) 3)])), some (.st (clsSt [a, (fun i => !a i)])), some (.is (.agg #[.int .u64 (wd al 0), .int .u64 (wd al 1), .int .u64 (wd al 2), .int .u64 (wd al 3)])), some (.is (.agg #[.int .u64 (wd al 0), .int .u64 (wd al 1), .int .u64 (wd al 2), .int .u64 (wd al 3)])), some (.is (.bool false)), some (.is (.bool false)), some (.is (.bool false)), some (.is (.agg #[.int .u64 (wd al 0), .int .u64 (wd al 1), .int .u64 (wd al 2), .int .u64 (wd al 3)])), some (.is (.int .i64 256)), some (.is (.bool false)), some (.is (.bool false))] (fun f => #[.agg #[.int .u64 (wd a 0), .int .u64 (wd a 1), .int .u64 (wd a 2), .int .u64 (wd a 3)], .agg #[.int .u64 (wd b 0), .int .u64 (wd b 1), .int .u64 (wd b 2), .int .u64 (wd b 3)], .agg #[.int .u64 (wd c 0), .int .u64 (wd c 1), .int .u64 (wd c 2), .int .u64 (wd c 3)], .pointer (some ⟨w.heap.size, 0, none⟩), .pointer (some ⟨w.heap.size + 1, 0, none⟩), .pointer (some ⟨w.heap.size + 1 + 1, 0, none⟩), .bool false, .pointer (some ⟨w1.heap.size, 0, none⟩), .pointer (some ⟨w2.heap.size, 0, none⟩), .bool true, .bool false, .agg #[.int .u64 0, .int .u64 0, .int .u64 0, .int .u64 0], .agg #[.int .u64 (wd al 0), .int .u64 (wd al 1), .int .u64 (wd al 2), .int .u64 (wd al 3)], f 13, f 14, f 15, f 16, f 17, f 18, f 19, f 20, f 21, f 22, f 23, f 24, f 25, f 26, f 27, f 28, f 29, f 30, f 31, f 32, f 33, f 34, f 35, f 36, f 37, f 38, f 39, f 40, f 41, f 42, f 43, f 44, f 45, f 46, f 47, f 48, f 49, f 50, f 51, f 52, f 53, f 54, undef, undef, undef, undef, undef, undef, undef, undef, undef, undef, undef, undef, undef, undef, undef, undef, undef, undef, undef, undef, undef, undef, undef, undef, undef, undef, undef, undef, undef, undef, undef, undef, undef, undef, undef, undef, undef, undef, undef, undef, undef, undef, undef, undef, undef, undef, undef, undef, undef, undef, undef, undef, undef, undef, undef, undef, undef, undef, undef, undef, undef, undef, undef, undef, undef, undef, undef, undef]) (by kernel_rfl) (by kernel_rfl) (by kernel_rfl) (by kernel_rfl) (fun f => by kernel_rfl) ⟨by
      intro _ act W hS hun hd
      exact g_load4 rfl (hun 3 (by kernel_rfl)) (bA.below hS bA.lt) rfl,
    by
      intro _ act W hS hun hd
      have h13 : act.eval (.tmp 13) = .agg #[.int .u64 (wd a 0), .int .u64 (wd a 1), .int .u64 (wd a 2), .int .u64 (wd a 3)] := hd 0 _ 13 rfl rfl (by kernel_rfl)
      exact g_call (f := 24) rfl en24 (by simp only [List.map_toArray, List.map_cons, List.map_nil, h13]) (not_as a (fun i => !a i) (fun _ _ => rfl) W),
    by
      intro _ act W hS hun hd
      have h14 : act.eval (.tmp 14) = .agg #[.int .u64 (wd ((fun i => !a i)) 0), .int .u64 (wd ((fun i => !a i)) 1), .int .u64 (wd ((fun i => !a i)) 2), .int .u64 (wd ((fun i => !a i)) 3)] := hd 1 _ 14 rfl rfl (by kernel_rfl)
      exact g_call (f := 24) rfl en24 (by simp only [List.map_toArray, List.map_cons, List.map_nil, h14]) (not_as (fun i => !a i) a (by intro i _; simp) W),
    by
      intro _ act W hS hun hd
      exact g_load4 rfl (hun 3 (by kernel_rfl)) (bA.below hS bA.lt) rfl,
    by
      intro _ act W hS hun hd
      have h15 : act.eval (.tmp 15) = .agg #[.int .u64 (wd a 0), .int .u64 (wd a 1), .int .u64 (wd a 2), .int .u64 (wd a 3)] := hd 2 _ 15 rfl rfl (by kernel_rfl)
      have h16 : act.eval (.tmp 16) = .agg #[.int .u64 (wd a 0), .int .u64 (wd a 1), .int .u64 (wd a 2), .int .u64 (wd a 3)] := hd 3 _ 16 rfl rfl (by kernel_rfl)
      exact g_neq25 rfl h15 h16 rfl,
    by
      intro _ act W hS hun hd
      have h17 : act.eval (.tmp 17) = .bool false := hd 4 _ 17 rfl rfl (by kernel_rfl)
      exact g_move rfl h17,
    by
      intro _ act W hS hun hd
      exact g_load4 rfl (hun 3 (by kernel_rfl)) (bA.below hS bA.lt) rfl,
    by
      intro _ act W hS hun hd
      exact g_load4 rfl (hun 4 (by kernel_rfl)) (bB.below hS bB.lt) rfl,
    by
      intro _ act W hS hun hd
      have h19 : act.eval (.tmp 19) = .agg #[.int .u64 (wd a 0), .int .u64 (wd a 1), .int .u64 (wd a 2), .int .u64 (wd a 3)] := hd 6 _ 19 rfl rfl (by kernel_rfl)
      have h20 : act.eval (.tmp 20) = .agg #[.int .u64 (wd b 0), .int .u64 (wd b 1), .int .u64 (wd b 2), .int .u64 (wd b 3)] := hd 7 _ 20 rfl rfl (by kernel_rfl)
      exact g_build2 rfl h19 h20,
    by
      intro _ act W hS hun hd
      have h21 : ClsAt W W.heap.size (act.eval (.tmp 21)) [a, b] := hd 8 _ 21 rfl rfl (by kernel_rfl)
      exact g_call (f := 26) rfl en26 (by simp only [List.map_toArray, List.map_cons, List.map_nil]) (orf_as _ [a, b] (fun i => a i || b i) (by intro i _; simp [anyS, allS]) W h21),
    by
      intro _ act W hS hun hd
      have h22 : act.eval (.tmp 22) = .agg #[.int .u64 (wd ((fun i => a i || b i)) 0), .int .u64 (wd ((fun i => a i || b i)) 1), .int .u64 (wd ((fun i => a i || b i)) 2), .int .u64 (wd ((fun i => a i || b i)) 3)] := hd 9 _ 22 rfl rfl (by kernel_rfl)
      exact g_call (f := 24) rfl en24 (by simp only [List.map_toArray, List.map_cons, List.map_nil, h22]) (not_as (fun i => a i || b i) (fun i => !(a i || b i)) (fun _ _ => rfl) W),
    by
      intro _ act W hS hun hd
      exact g_load4 rfl (hun 3 (by kernel_rfl)) (bA.below hS bA.lt) rfl,
    by
      intro _ act W hS hun hd
      have h24 : act.eval (.tmp 24) = .agg #[.int .u64 (wd a 0), .int .u64 (wd a 1), .int .u64 (wd a 2), .int .u64 (wd a 3)] := hd 11 _ 24 rfl rfl (by kernel_rfl)
      exact g_call (f := 24) rfl en24 (by simp only [List.map_toArray, List.map_cons, List.map_nil, h24]) (not_as a (fun i => !a i) (fun _ _ => rfl) W),
    by
      intro _ act W hS hun hd
      exact g_load4 rfl (hun 4 (by kernel_rfl)) (bB.below hS bB.lt) rfl,
    by
      intro _ act W hS hun hd
      have h26 : act.eval (.tmp 26) = .agg #[.int .u64 (wd b 0), .int .u64 (wd b 1), .int .u64 (wd b 2), .int .u64 (wd b 3)] := hd 13 _ 26 rfl rfl (by kernel_rfl)
      exact g_call (f := 24) rfl en24 (by simp only [List.map_toArray, List.map_cons, List.map_nil, h26]) (not_as b (fun i => !b i) (fun _ _ => rfl) W),
    by
      intro _ act W hS hun hd
      have h25 : act.eval (.tmp 25) = .agg #[.int .u64 (wd ((fun i => !a i)) 0), .int .u64 (wd ((fun i => !a i)) 1), .int .u64 (wd ((fun i => !a i)) 2), .int .u64 (wd ((fun i => !a i)) 3)] := hd 12 _ 25 rfl rfl (by kernel_rfl)
      have h27 : act.eval (.tmp 27) = .agg #[.int .u64 (wd ((fun i => !b i)) 0), .int .u64 (wd ((fun i => !b i)) 1), .int .u64 (wd ((fun i => !b i)) 2), .int .u64 (wd ((fun i => !b i)) 3)] := hd 14 _ 27 rfl rfl (by kernel_rfl)
      exact g_build2 rfl h25 h27,
    by
      intro _ act W hS hun hd
      have h28 : ClsAt W W.heap.size (act.eval (.tmp 28)) [(fun i => !a i), (fun i => !b i)] := hd 15 _ 28 rfl rfl (by kernel_rfl)
      exact g_call (f := 28) rfl en28 (by simp only [List.map_toArray, List.map_cons, List.map_nil]) (andf_as _ [(fun i => !a i), (fun i => !b i)] (fun i => !(a i || b i)) (by intro i _; simp [anyS, allS]) W h28),
    by
      intro _ act W hS hun hd
      have h23 : act.eval (.tmp 23) = .agg #[.int .u64 (wd ((fun i => !(a i || b i))) 0), .int .u64 (wd ((fun i => !(a i || b i))) 1), .int .u64 (wd ((fun i => !(a i || b i))) 2), .int .u64 (wd ((fun i => !(a i || b i))) 3)] := hd 10 _ 23 rfl rfl (by kernel_rfl)
      have h29 : act.eval (.tmp 29) = .agg #[.int .u64 (wd ((fun i => !(a i || b i))) 0), .int .u64 (wd ((fun i => !(a i || b i))) 1), .int .u64 (wd ((fun i => !(a i || b i))) 2), .int .u64 (wd ((fun i => !(a i || b i))) 3)] := hd 16 _ 29 rfl rfl (by kernel_rfl)
      exact g_neq25 rfl h23 h29 rfl,
    by
      intro _ act W hS hun hd
      have h18 : act.eval (.tmp 18) = .bool false := hd 5 _ 18 rfl rfl (by kernel_rfl)
      have h30 : act.eval (.tmp 30) = .bool false := hd 17 _ 30 rfl rfl (by kernel_rfl)
      exact g_pick rfl h18 h30 rfl,
    by
      intro _ act W hS hun hd
      have h31 : act.eval (.tmp 31) = .bool false := hd 18 _ 31 rfl rfl (by kernel_rfl)
      exact g_move rfl h31,
    by
      intro _ act W hS hun hd
      exact g_load4 rfl (hun 3 (by kernel_rfl)) (bA.below hS bA.lt) rfl,
    by
      intro _ act W hS hun hd
      exact g_load4 rfl (hun 3 (by kernel_rfl)) (bA.below hS bA.lt) rfl,
    by
      intro _ act W hS hun hd
      have h34 : act.eval (.tmp 34) = .agg #[.int .u64 (wd a 0), .int .u64 (wd a 1), .int .u64 (wd a 2), .int .u64 (wd a 3)] := hd 21 _ 34 rfl rfl (by kernel_rfl)
      exact g_call (f := 24) rfl en24 (by simp only [List.map_toArray, List.map_cons, List.map_nil, h34]) (not_as a (fun i => !a i) (fun _ _ => rfl) W),
    by
      intro _ act W hS hun hd
      have h33 : act.eval (.tmp 33) = .agg #[.int .u64 (wd a 0), .int .u64 (wd a 1), .int .u64 (wd a 2), .int .u64 (wd a 3)] := hd 20 _ 33 rfl rfl (by kernel_rfl)
      have h35 : act.eval (.tmp 35) = .agg #[.int .u64 (wd ((fun i => !a i)) 0), .int .u64 (wd ((fun i => !a i)) 1), .int .u64 (wd ((fun i => !a i)) 2), .int .u64 (wd ((fun i => !a i)) 3)] := hd 22 _ 35 rfl rfl (by kernel_rfl)
      exact g_build2 rfl h33 h35,
    by
      intro _ act W hS hun hd
      have h36 : ClsAt W W.heap.size (act.eval (.tmp 36)) [a, (fun i => !a i)] := hd 23 _ 36 rfl rfl (by kernel_rfl)
      exact g_call (f := 28) rfl en28 (by simp only [List.map_toArray, List.map_cons, List.map_nil]) (andf_as _ [a, (fun i => !a i)] no (by intro i _; rw [HNO.out]; simp [anyS, allS]) W h36),
    by
      intro _ act W hS hun hd
      exact g_load4 rfl (hun 7 (by kernel_rfl)) (bN.below hS bN.lt) rfl,
    by
      intro _ act W hS hun hd
      have h37 : act.eval (.tmp 37) = .agg #[.int .u64 (wd no 0), .int .u64 (wd no 1), .int .u64 (wd no 2), .int .u64 (wd no 3)] := hd 24 _ 37 rfl rfl (by kernel_rfl)
      have h38 : act.eval (.tmp 38) = .agg #[.int .u64 (wd no 0), .int .u64 (wd no 1), .int .u64 (wd no 2), .int .u64 (wd no 3)] := hd 25 _ 38 rfl rfl (by kernel_rfl)
      exact g_neq25 rfl h37 h38 rfl,
    by
      intro _ act W hS hun hd
      have h32 : act.eval (.tmp 32) = .bool false := hd 19 _ 32 rfl rfl (by kernel_rfl)
      have h39 : act.eval (.tmp 39) = .bool false := hd 26 _ 39 rfl rfl (by kernel_rfl)
      exact g_pick rfl h32 h39 rfl,
    by
      intro _ act W hS hun hd
      have h40 : act.eval (.tmp 40) = .bool false := hd 27 _ 40 rfl rfl (by kernel_rfl)
      exact g_move rfl h40,
    by
      intro _ act W hS hun hd
      exact g_load4 rfl (hun 3 (by kernel_rfl)) (bA.below hS bA.lt) rfl,
    by
      intro _ act W hS hun hd
      exact g_load4 rfl (hun 3 (by kernel_rfl)) (bA.below hS bA.lt) rfl,
    by
      intro _ act W hS hun hd
      have h43 : act.eval (.tmp 43) = .agg #[.int .u64 (wd a 0), .int .u64 (wd a 1), .int .u64 (wd a 2), .int .u64 (wd a 3)] := hd 30 _ 43 rfl rfl (by kernel_rfl)
      exact g_call (f := 24) rfl en24 (by simp only [List.map_toArray, List.map_cons, List.map_nil, h43]) (not_as a (fun i => !a i) (fun _ _ => rfl) W),
    by
      intro _ act W hS hun hd
      have h42 : act.eval (.tmp 42) = .agg #[.int .u64 (wd a 0), .int .u64 (wd a 1), .int .u64 (wd a 2), .int .u64 (wd a 3)] := hd 29 _ 42 rfl rfl (by kernel_rfl)
      have h44 : act.eval (.tmp 44) = .agg #[.int .u64 (wd ((fun i => !a i)) 0), .int .u64 (wd ((fun i => !a i)) 1), .int .u64 (wd ((fun i => !a i)) 2), .int .u64 (wd ((fun i => !a i)) 3)] := hd 31 _ 44 rfl rfl (by kernel_rfl)
      exact g_build2 rfl h42 h44,
    by
      intro _ act W hS hun hd
      have h45 : ClsAt W W.heap.size (act.eval (.tmp 45)) [a, (fun i => !a i)] := hd 32 _ 45 rfl rfl (by kernel_rfl)
      exact g_call (f := 26) rfl en26 (by simp only [List.map_toArray, List.map_cons, List.map_nil]) (orf_as _ [a, (fun i => !a i)] al (by intro i _; rw [HAL.out]; simp [anyS, allS]) W h45),
    by
      intro _ act W hS hun hd
      exact g_load4 rfl (hun 8 (by kernel_rfl)) (bAll.below hS bAll.lt) rfl,
    by
      intro _ act W hS hun hd
      have h46 : act.eval (.tmp 46) = .agg #[.int .u64 (wd al 0), .int .u64 (wd al 1), .int .u64 (wd al 2), .int .u64 (wd al 3)] := hd 33 _ 46 rfl rfl (by kernel_rfl)
      have h47 : act.eval (.tmp 47) = .agg #[.int .u64 (wd al 0), .int .u64 (wd al 1), .int .u64 (wd al 2), .int .u64 (wd al 3)] := hd 34 _ 47 rfl rfl (by kernel_rfl)
      exact g_neq25 rfl h46 h47 rfl,
    by
      intro _ act W hS hun hd
      have h41 : act.eval (.tmp 41) = .bool false := hd 28 _ 41 rfl rfl (by kernel_rfl)
      have h48 : act.eval (.tmp 48) = .bool false := hd 35 _ 48 rfl rfl (by kernel_rfl)
      exact g_pick rfl h41 h48 rfl,
    by
      intro _ act W hS hun hd
      have h49 : act.eval (.tmp 49) = .bool false := hd 36 _ 49 rfl rfl (by kernel_rfl)
      exact g_move rfl h49,
    by
      intro _ act W hS hun hd
      exact g_load4 rfl (hun 8 (by kernel_rfl)) (bAll.below hS bAll.lt) rfl,
    by
      intro _ act W hS hun hd
      have h51 : act.eval (.tmp 51) = .agg #[.int .u64 (wd al 0), .int .u64 (wd al 1), .int .u64 (wd al 2), .int .u64 (wd al 3)] := hd 38 _ 51 rfl rfl (by kernel_rfl)
      exact g_call (f := 19) rfl en19 (by simp only [List.map_toArray, List.map_cons, List.map_nil, h51]) (len_as al 256 (by rw [HAL.out]; exact cnt_all) W),
    by
      intro _ act W hS hun hd
      have h52 : act.eval (.tmp 52) = .int .i64 256 := hd 39 _ 52 rfl rfl (by kernel_rfl)
      exact g_neqi rfl h52 rfl (by decide) rfl,
    by
      intro _ act W hS hun hd
      have h50 : act.eval (.tmp 50) = .bool false := hd 37 _ 50 rfl rfl (by kernel_rfl)
      have h53 : act.eval (.tmp 53) = .bool false := hd 40 _ 53 rfl rfl (by kernel_rfl)
      exact g_pick rfl h50 h53 rfl,
    trivial⟩ ?_
  intro f W hW hf
  have h54 : f 54 = .bool false := hf 41 _ 54 rfl rfl
  have B8 := B7.trans (hW.mono B7.size)
  have bA := bA.below hW bA.lt
  have bB := bB.below hW bB.lt
  have bC := bC.below hW bC.lt
  have bN := bN.below hW bN.lt
  have bAll := bAll.below hW bAll.lt
  clear hf hW B7
  rw [h54]
  go_wp2_with fail
  refine wp_region_lay [some (.is (.agg #[.int .u64 (wd a 0), .int .u64 (wd a 1), .int .u64 (wd a 2), .int .u64 (wd a 3)])), some (.is (.agg #[.int .u64 (wd b 0), .int .u64 (wd b 1), .int .u64 (wd b 2), .int .u64 (wd b 3)])), some (.is (.agg #[.int .u64 (wd c 0), .int .u64 (wd c 1), .int .u64 (wd c 2), .int .u64 (wd c 3)])), some (.st (clsSt [a, b, c])), some (.is (.agg #[.int .u64 (wd ((fun i => a i || b i || c i)) 0), .int .u64 (wd ((fun i => a i || b i || c i)) 1), .int .u64 (wd ((fun i => a i || b i || c i)) 2), .int .u64 (wd ((fun i => a i || b i || c i)) 3)])), some (.is (.agg #[.int .u64 (wd c 0), .int .u64 (wd c 1), .int .u64 (wd c 2), .int .u64 (wd c 3)])), some (.is (.agg #[.int .u64 (wd a 0), .int .u64 (wd a 1), .int .u64 (wd a 2), .int .u64 (wd a 3)])), some (.is (.agg #[.int .u64 (wd b 0), .int .u64 (wd b 1), .int .u64 (wd b 2), .int .u64 (wd b 3)])), some (.st (clsSt [c, a, b])), some (.is (.agg #[.int .u64 (wd ((fun i => a i || b i || c i)) 0), .int .u64 (wd ((fun i => a i || b i || c i)) 1), .int .u64 (wd ((fun i => a i || b i || c i)) 2), .int .u64 (wd ((fun i => a i || b i || c i)) 3)])), some (.is (.bool true)), some (.is (.bool true)), some (.is (.agg #[.int .u64 (wd a 0), .int .u64 (wd a 1), .int .u64 (wd a 2), .int .u64 (wd a 3)])), some (.is (.agg #[.int .u64 (wd b 0), .int .u64 (wd b 1), .int .u64 (wd b 2), .int .u64 (wd b 3)])), some (.is (.agg #[.int .u64 (wd c 0), .int .u64 (wd c 1), .int .u64 (wd c 2), .int .u64 (wd c 3)])), some (.st (clsSt [a, b, c])), some (.is (.agg #[.int .u64 (wd ((fun i => a i && b i && c i)) 0), .int .u64 (wd ((fun i => a i && b i && c i)) 1), .int .u64 (wd ((fun i => a i && b i && c i)) 2), .int .u64 (wd ((fun i => a i && b i && c i)) 3)])), some (.is (.agg #[.int .u64 (wd c 0), .int .u64 (wd c 1), .int .u64 (wd c 2), .int .u64 (wd c 3)])), some (.is (.agg #[.int .u64 (wd a 0), .int .u64 (wd a 1), .int .u64 (wd a 2), .int .u64 (wd a 3)])), some (.is (.agg #[.int .u64 (wd b 0), .int .u64 (wd b 1), .int .u64 (wd b 2), .int .u64 (wd b 3)])), some (.st (clsSt [c, a, b])), some (.is (.agg #[.int .u64 (wd ((fun i => a i && b i && c i)) 0), .int .u64 (wd ((fun i => a i && b i && c i)) 1), .int .u64 (wd ((fun i => a i && b i && c i)) 2), .int .u64 (wd ((fun i => a i && b i && c i)) 3)])), some (.is (.bool true)), some (.is (.bool true)), some (.is (.bool true)), some (.is (.agg #[.int .u64 (wd a 0), .int .u64 (wd a 1), .int .u64 (wd a 2), .int .u64 (wd a 3)])), some (.is (.agg #[.int .u64 (wd b 0), .int .u64 (wd b 1), .int .u64 (wd b 2), .int .u64 (wd b 3)])), some (.is (.agg #[.int .u64 (wd c 0), .int .u64 (wd c 1), .int .u64 (wd c 2), .int .u64 (wd c 3)])), some (.st (clsSt [b, c])), some (.is (.agg #[.int .u64 (wd ((fun i => b i || c i)) 0), .int .u64 (wd ((fun i => b i || c i)) 1), .int .u64 (wd ((fun i => b i || c i)) 2), .int .u64 (wd ((fun i => b i || c i)) 3)])), some (.st (clsSt [a, (fun i => b i || c i)])), some (.is (.agg #[.int .u64 (wd ((fun i => a i && (b i || c i))) 0), .int .u64 (wd ((fun i => a i && (b i || c i))) 1), .int .u64 (wd ((fun i => a i && (b i || c i))) 2), .int .u64 (wd ((fun i => a i && (b i || c i))) 3)])), some (.is (.agg #[.int .u64 (wd a 0), .int .u64 (wd a 1), .int .u64 (wd a 2), .int .u64 (wd a 3)])), some (.is (.agg #[.int .u64 (wd b 0), .int .u64 (wd b 1), .int .u64 (wd b 2), .int .u64 (wd b 3)])), some (.st (clsSt [a, b])), some (.is (.agg #[.int .u64 (wd ((fun i => a i && b i)) 0), .int .u64 (wd ((fun i => a i && b i)) 1), .int .u64 (wd ((fun i => a i && b i)) 2), .int .u64 (wd ((fun i => a i && b i)) 3)])), some (.is (.agg #[.int .u64 (wd a 0), .int .u64 (wd a 1), .int .u64 (wd a 2), .int .u64 (wd a 3)])), some (.is (.agg #[.int .u64 (wd c 0), .int .u64 (wd c 1), .int .u64 (wd c 2), .int .u64 (wd c 3)])), some (.st (clsSt [a, c])), some (.is (.agg #[.int .u64 (wd ((fun i => a i && c i)) 0), .int .u64 (wd ((fun i => a i && c i)) 1), .int .u64 (wd ((fun i => a i && c i)) 2), .int .u64 (wd ((fun i => a i && c i)) 3)])), some (.st (clsSt [(fun i => a i && b i), (fun i => a i && c i)])), some (.is (.agg #[.int .u64 (wd ((fun i => a i && (b i || c i))) 0), .int .u64 (wd ((fun i => a i && (b i || c i))) 1), .int .u64 (wd ((fun i => a i && (b i || c i))) 2), .int .u64 (wd ((fun i => a i && (b i || c i))) 3)])), some (.is (.bool true)), some (.is (.bool true)), some (.is (.bool true)), some (.is (.agg #[.int .u64 (wd a 0), .int .u64 (wd a 1), .int .u64 (wd a 2), .int .u64 (wd a 3)])), some (.is (.int .i64 (cntN a 256))), some (.is (.agg #[.int .u64 (wd b 0), .int .u64 (wd b 1), .int .u64 (wd b 2), .int .u64 (wd b 3)])), some (.is (.int .i64 (cntN b 256))), some (.is (.int .i64 (cntN a 256 + cntN b 256))), some (.is (.agg #[.int .u64 (wd a 0), .int .u64 (wd a 1), .int .u64 (wd a 2), .int .u64 (wd a 3)])), some (.is (.agg #[.int .u64 (wd b 0), .int .u64 (wd b 1), .int .u64 (wd b 2), .int .u64 (wd b 3)])), some (.st (clsSt [a, b])), some (.is (.agg #[.int .u64 (wd ((fun i => a i || b i)) 0), .int .u64 (wd ((fun i => a i || b i)) 1), .int .u64 (wd ((fun i => a i || b i)) 2), .int .u64 (wd ((fun i => a i || b i)) 3)])), some (.is (.int .i64 (cntN (fun i => a i || b i) 256))), some (.is (.agg #[.int .u64 (wd a 0), .int .u64 (wd a 1), .int .u64 (wd a 2), .int .u64 (wd a 3)])), some (.is (.agg #[.int .u64 (wd b 0), .int .u64 (wd b 1), .int .u64 (wd b 2), .int .u64 (wd b 3)])), some (.st (clsSt [a, b])), some (.is (.agg #[.int .u64 (wd ((fun i => a i && b i)) 0), .int .u64 (wd ((fun i => a i && b i)) 1), .int .u64 (wd ((fun i => a i && b i)) 2), .int .u64 (wd ((fun i => a i && b i)) 3)])), some (.is (.int .i64 (cntN (fun i => a i && b i) 256))), some (.is (.int .i64 (cntN (fun i => a i || b i) 256 + cntN (fun i => a i && b i) 256))), some (.is (.bool true)), some (.is (.bool true)), some (.is (.bool true)), some (.is (.agg #[.int .u64 (wd al 0), .int .u64 (wd al 1), .int .u64 (wd al 2), .int .u64 (wd al 3)])), some (.is (.agg #[.int .u64 (wd al 0), .int .u64 (wd al 1), .int .u64 (wd al 2), .int .u64 (wd al 3)])), some (.is (.bool true)), some (.is (.bool true)), some (.is (.bool true))] (fun g => #[.agg #[.int .u64 (wd a 0), .int .u64 (wd a 1), .int .u64 (wd a 2), .int .u64 (wd a 3)], .agg #[.int .u64 (wd b 0), .int .u64 (wd b 1), .int .u64 (wd b 2), .int .u64 (wd b 3)], .agg #[.int .u64 (wd c 0), .int .u64 (wd c 1), .int .u64 (wd c 2), .int .u64 (wd c 3)], .pointer (some ⟨w.heap.size, 0, none⟩), .pointer (some ⟨w.heap.size + 1, 0, none⟩), .pointer (some ⟨w.heap.size + 1 + 1, 0, none⟩), g 6, .pointer (some ⟨w1.heap.size, 0, none⟩), .pointer (some ⟨w2.heap.size, 0, none⟩), .bool true, .bool false, .agg #[.int .u64 0, .int .u64 0, .int .u64 0, .int .u64 0], .agg #[.int .u64 (wd al 0), .int .u64 (wd al 1), .int .u64 (wd al 2), .int .u64 (wd al 3)], f 13, f 14, f 15, f 16, f 17, f 18, f 19, f 20, f 21, f 22, f 23, f 24, f 25, f 26, f 27, f 28, f 29, f 30, f 31, f 32, f 33, f 34, f 35, f 36, f 37, f 38, f 39, f 40, f 41, f 42, f 43, f 44, f 45, f 46, f 47, f 48, f 49, f 50, f 51, f 52, f 53, .bool false, g 55, g 56, g 57, g 58, g 59, g 60, g 61, g 62, g 63, g 64, g 65, g 66, g 67, g 68, g 69, g 70, g 71, g 72, g 73, g 74, g 75, g 76, g 77, g 78, g 79, g 80, g 81, g 82, g 83, g 84, g 85, g 86, g 87, g 88, g 89, g 90, g 91, g 92, g 93, g 94, g 95, g 96, g 97, g 98, g 99, g 100, g 101, g 102, g 103, g 104, g 105, g 106, g 107, g 108, g 109, g 110, g 111, g 112, g 113, g 114, g 115, g 116, g 117, g 118, g 119, g 120, g 121, g 122]) (by kernel_rfl) (by kernel_rfl) (by kernel_rfl) (by kernel_rfl) (fun f => by kernel_rfl) ⟨by
      intro _ act W hS hun hd
      exact g_load4 rfl (hun 3 (by kernel_rfl)) (bA.below hS bA.lt) rfl,
    by
      intro _ act W hS hun hd
      exact g_load4 rfl (hun 4 (by kernel_rfl)) (bB.below hS bB.lt) rfl,
    by
      intro _ act W hS hun hd
      exact g_load4 rfl (hun 5 (by kernel_rfl)) (bC.below hS bC.lt) rfl,
    by
      intro _ act W hS hun hd
      have h55 : act.eval (.tmp 55) = .agg #[.int .u64 (wd a 0), .int .u64 (wd a 1), .int .u64 (wd a 2), .int .u64 (wd a 3)] := hd 0 _ 55 rfl rfl (by kernel_rfl)
      have h56 : act.eval (.tmp 56) = .agg #[.int .u64 (wd b 0), .int .u64 (wd b 1), .int .u64 (wd b 2), .int .u64 (wd b 3)] := hd 1 _ 56 rfl rfl (by kernel_rfl)
      have h57 : act.eval (.tmp 57) = .agg #[.int .u64 (wd c 0), .int .u64 (wd c 1), .int .u64 (wd c 2), .int .u64 (wd c 3)] := hd 2 _ 57 rfl rfl (by kernel_rfl)
      exact g_build3 rfl h55 h56 h57,
    by
      intro _ act W hS hun hd
      have h58 : ClsAt W W.heap.size (act.eval (.tmp 58)) [a, b, c] := hd 3 _ 58 rfl rfl (by kernel_rfl)
      exact g_call (f := 26) rfl en26 (by simp only [List.map_toArray, List.map_cons, List.map_nil]) (orf_as _ [a, b, c] (fun i => a i || b i || c i) (by intro i _; simp only [anyS, allS, List.any_cons, List.any_nil, List.all_cons, List.all_nil]; cases a i <;> cases b i <;> cases c i <;> rfl) W h58),
    by
      intro _ act W hS hun hd
      exact g_load4 rfl (hun 5 (by kernel_rfl)) (bC.below hS bC.lt) rfl,
    by
      intro _ act W hS hun hd
      exact g_load4 rfl (hun 3 (by kernel_rfl)) (bA.below hS bA.lt) rfl,
    by
      intro _ act W hS hun hd
      exact g_load4 rfl (hun 4 (by kernel_rfl)) (bB.below hS bB.lt) rfl,
    by
      intro _ act W hS hun hd
      have h60 : act.eval (.tmp 60) = .agg #[.int .u64 (wd c 0), .int .u64 (wd c 1), .int .u64 (wd c 2), .int .u64 (wd c 3)] := hd 5 _ 60 rfl rfl (by kernel_rfl)
      have h61 : act.eval (.tmp 61) = .agg #[.int .u64 (wd a 0), .int .u64 (wd a 1), .int .u64 (wd a 2), .int .u64 (wd a 3)] := hd 6 _ 61 rfl rfl (by kernel_rfl)
      have h62 : act.eval (.tmp 62) = .agg #[.int .u64 (wd b 0), .int .u64 (wd b 1), .int .u64 (wd b 2), .int .u64 (wd b 3)] := hd 7 _ 62 rfl rfl (by kernel_rfl)
      exact g_build3 rfl h60 h61 h62,
    by
      intro _ act W hS hun hd
      have h63 : ClsAt W W.heap.size (act.eval (.tmp 63)) [c, a, b] := hd 8 _ 63 rfl rfl (by kernel_rfl)
      exact g_call (f := 26) rfl en26 (by simp only [List.map_toArray, List.map_cons, List.map_nil]) (orf_as _ [c, a, b] (fun i => a i || b i || c i) (by intro i _; simp only [anyS, allS, List.any_cons, List.any_nil, List.all_cons, List.all_nil]; cases a i <;> cases b i <;> cases c i <;> rfl) W h63),
    by
      intro _ act W hS hun hd
      have h59 : act.eval (.tmp 59) = .agg #[.int .u64 (wd ((fun i => a i || b i || c i)) 0), .int .u64 (wd ((fun i => a i || b i || c i)) 1), .int .u64 (wd ((fun i => a i || b i || c i)) 2), .int .u64 (wd ((fun i => a i || b i || c i)) 3)] := hd 4 _ 59 rfl rfl (by kernel_rfl)
      have h64 : act.eval (.tmp 64) = .agg #[.int .u64 (wd ((fun i => a i || b i || c i)) 0), .int .u64 (wd ((fun i => a i || b i || c i)) 1), .int .u64 (wd ((fun i => a i || b i || c i)) 2), .int .u64 (wd ((fun i => a i || b i || c i)) 3)] := hd 9 _ 64 rfl rfl (by kernel_rfl)
      exact g_eql25 rfl h59 h64 rfl,
    by
      intro _ act W hS hun hd
      have h65 : act.eval (.tmp 65) = .bool true := hd 10 _ 65 rfl rfl (by kernel_rfl)
      exact g_move rfl h65,
    by
      intro _ act W hS hun hd
      exact g_load4 rfl (hun 3 (by kernel_rfl)) (bA.below hS bA.lt) rfl,
    by
      intro _ act W hS hun hd
      exact g_load4 rfl (hun 4 (by kernel_rfl)) (bB.below hS bB.lt) rfl,
    by
      intro _ act W hS hun hd
      exact g_load4 rfl (hun 5 (by kernel_rfl)) (bC.below hS bC.lt) rfl,
    by
      intro _ act W hS hun hd
      have h67 : act.eval (.tmp 67) = .agg #[.int .u64 (wd a 0), .int .u64 (wd a 1), .int .u64 (wd a 2), .int .u64 (wd a 3)] := hd 12 _ 67 rfl rfl (by kernel_rfl)
      have h68 : act.eval (.tmp 68) = .agg #[.int .u64 (wd b 0), .int .u64 (wd b 1), .int .u64 (wd b 2), .int .u64 (wd b 3)] := hd 13 _ 68 rfl rfl (by kernel_rfl)
      have h69 : act.eval (.tmp 69) = .agg #[.int .u64 (wd c 0), .int .u64 (wd c 1), .int .u64 (wd c 2), .int .u64 (wd c 3)] := hd 14 _ 69 rfl rfl (by kernel_rfl)
      exact g_build3 rfl h67 h68 h69,
    by
      intro _ act W hS hun hd
      have h70 : ClsAt W W.heap.size (act.eval (.tmp 70)) [a, b, c] := hd 15 _ 70 rfl rfl (by kernel_rfl)
      exact g_call (f := 28) rfl en28 (by simp only [List.map_toArray, List.map_cons, List.map_nil]) (andf_as _ [a, b, c] (fun i => a i && b i && c i) (by intro i _; simp only [anyS, allS, List.any_cons, List.any_nil, List.all_cons, List.all_nil]; cases a i <;> cases b i <;> cases c i <;> rfl) W h70),
    by
      intro _ act W hS hun hd
      exact g_load4 rfl (hun 5 (by kernel_rfl)) (bC.below hS bC.lt) rfl,
    by
      intro _ act W hS hun hd
      exact g_load4 rfl (hun 3 (by kernel_rfl)) (bA.below hS bA.lt) rfl,
    by
      intro _ act W hS hun hd
      exact g_load4 rfl (hun 4 (by kernel_rfl)) (bB.below hS bB.lt) rfl,
    by
      intro _ act W hS hun hd
      have h72 : act.eval (.tmp 72) = .agg #[.int .u64 (wd c 0), .int .u64 (wd c 1), .int .u64 (wd c 2), .int .u64 (wd c 3)] := hd 17 _ 72 rfl rfl (by kernel_rfl)
      have h73 : act.eval (.tmp 73) = .agg #[.int .u64 (wd a 0), .int .u64 (wd a 1), .int .u64 (wd a 2), .int .u64 (wd a 3)] := hd 18 _ 73 rfl rfl (by kernel_rfl)
      have h74 : act.eval (.tmp 74) = .agg #[.int .u64 (wd b 0), .int .u64 (wd b 1), .int .u64 (wd b 2), .int .u64 (wd b 3)] := hd 19 _ 74 rfl rfl (by kernel_rfl)
      exact g_build3 rfl h72 h73 h74,
    by
      intro _ act W hS hun hd
      have h75 : ClsAt W W.heap.size (act.eval (.tmp 75)) [c, a, b] := hd 20 _ 75 rfl rfl (by kernel_rfl)
      exact g_call (f := 28) rfl en28 (by simp only [List.map_toArray, List.map_cons, List.map_nil]) (andf_as _ [c, a, b] (fun i => a i && b i && c i) (by intro i _; simp only [anyS, allS, List.any_cons, List.any_nil, List.all_cons, List.all_nil]; cases a i <;> cases b i <;> cases c i <;> rfl) W h75),
    by
      intro _ act W hS hun hd
      have h71 : act.eval (.tmp 71) = .agg #[.int .u64 (wd ((fun i => a i && b i && c i)) 0), .int .u64 (wd ((fun i => a i && b i && c i)) 1), .int .u64 (wd ((fun i => a i && b i && c i)) 2), .int .u64 (wd ((fun i => a i && b i && c i)) 3)] := hd 16 _ 71 rfl rfl (by kernel_rfl)
      have h76 : act.eval (.tmp 76) = .agg #[.int .u64 (wd ((fun i => a i && b i && c i)) 0), .int .u64 (wd ((fun i => a i && b i && c i)) 1), .int .u64 (wd ((fun i => a i && b i && c i)) 2), .int .u64 (wd ((fun i => a i && b i && c i)) 3)] := hd 21 _ 76 rfl rfl (by kernel_rfl)
      exact g_eql25 rfl h71 h76 rfl,
    by
      intro _ act W hS hun hd
      have h66 : act.eval (.tmp 66) = .bool true := hd 11 _ 66 rfl rfl (by kernel_rfl)
      have h77 : act.eval (.tmp 77) = .bool true := hd 22 _ 77 rfl rfl (by kernel_rfl)
      exact g_pick rfl h66 h77 rfl,
    by
      intro _ act W hS hun hd
      have h78 : act.eval (.tmp 78) = .bool true := hd 23 _ 78 rfl rfl (by kernel_rfl)
      exact g_move rfl h78,
    by
      intro _ act W hS hun hd
      exact g_load4 rfl (hun 3 (by kernel_rfl)) (bA.below hS bA.lt) rfl,
    by
      intro _ act W hS hun hd
      exact g_load4 rfl (hun 4 (by kernel_rfl)) (bB.below hS bB.lt) rfl,
    by
      intro _ act W hS hun hd
      exact g_load4 rfl (hun 5 (by kernel_rfl)) (bC.below hS bC.lt) rfl,
    by
      intro _ act W hS hun hd
      have h81 : act.eval (.tmp 81) = .agg #[.int .u64 (wd b 0), .int .u64 (wd b 1), .int .u64 (wd b 2), .int .u64 (wd b 3)] := hd 26 _ 81 rfl rfl (by kernel_rfl)
      have h82 : act.eval (.tmp 82) = .agg #[.int .u64 (wd c 0), .int .u64 (wd c 1), .int .u64 (wd c 2), .int .u64 (wd c 3)] := hd 27 _ 82 rfl rfl (by kernel_rfl)
      exact g_build2 rfl h81 h82,
    by
      intro _ act W hS hun hd
      have h83 : ClsAt W W.heap.size (act.eval (.tmp 83)) [b, c] := hd 28 _ 83 rfl rfl (by kernel_rfl)
      exact g_call (f := 26) rfl en26 (by simp only [List.map_toArray, List.map_cons, List.map_nil]) (orf_as _ [b, c] (fun i => b i || c i) (by intro i _; simp only [anyS, allS, List.any_cons, List.any_nil, List.all_cons, List.all_nil]; cases a i <;> cases b i <;> cases c i <;> rfl) W h83),
    by
      intro _ act W hS hun hd
      have h80 : act.eval (.tmp 80) = .agg #[.int .u64 (wd a 0), .int .u64 (wd a 1), .int .u64 (wd a 2), .int .u64 (wd a 3)] := hd 25 _ 80 rfl rfl (by kernel_rfl)
      have h84 : act.eval (.tmp 84) = .agg #[.int .u64 (wd ((fun i => b i || c i)) 0), .int .u64 (wd ((fun i => b i || c i)) 1), .int .u64 (wd ((fun i => b i || c i)) 2), .int .u64 (wd ((fun i => b i || c i)) 3)] := hd 29 _ 84 rfl rfl (by kernel_rfl)
      exact g_build2 rfl h80 h84,
    by
      intro _ act W hS hun hd
      have h85 : ClsAt W W.heap.size (act.eval (.tmp 85)) [a, (fun i => b i || c i)] := hd 30 _ 85 rfl rfl (by kernel_rfl)
      exact g_call (f := 28) rfl en28 (by simp only [List.map_toArray, List.map_cons, List.map_nil]) (andf_as _ [a, (fun i => b i || c i)] (fun i => a i && (b i || c i)) (by intro i _; simp only [anyS, allS, List.any_cons, List.any_nil, List.all_cons, List.all_nil]; cases a i <;> cases b i <;> cases c i <;> rfl) W h85),
    by
      intro _ act W hS hun hd
      exact g_load4 rfl (hun 3 (by kernel_rfl)) (bA.below hS bA.lt) rfl,
    by
      intro _ act W hS hun hd
      exact g_load4 rfl (hun 4 (by kernel_rfl)) (bB.below hS bB.lt) rfl,
    by
      intro _ act W hS hun hd
      have h87 : act.eval (.tmp 87) = .agg #[.int .u64 (wd a 0), .int .u64 (wd a 1), .int .u64 (wd a 2), .int .u64 (wd a 3)] := hd 32 _ 87 rfl rfl (by kernel_rfl)
      have h88 : act.eval (.tmp 88) = .agg #[.int .u64 (wd b 0), .int .u64 (wd b 1), .int .u64 (wd b 2), .int .u64 (wd b 3)] := hd 33 _ 88 rfl rfl (by kernel_rfl)
      exact g_build2 rfl h87 h88,
    by
      intro _ act W hS hun hd
      have h89 : ClsAt W W.heap.size (act.eval (.tmp 89)) [a, b] := hd 34 _ 89 rfl rfl (by kernel_rfl)
      exact g_call (f := 28) rfl en28 (by simp only [List.map_toArray, List.map_cons, List.map_nil]) (andf_as _ [a, b] (fun i => a i && b i) (by intro i _; simp only [anyS, allS, List.any_cons, List.any_nil, List.all_cons, List.all_nil]; cases a i <;> cases b i <;> cases c i <;> rfl) W h89),
    by
      intro _ act W hS hun hd
      exact g_load4 rfl (hun 3 (by kernel_rfl)) (bA.below hS bA.lt) rfl,
    by
      intro _ act W hS hun hd
      exact g_load4 rfl (hun 5 (by kernel_rfl)) (bC.below hS bC.lt) rfl,
    by
      intro _ act W hS hun hd
      have h91 : act.eval (.tmp 91) = .agg #[.int .u64 (wd a 0), .int .u64 (wd a 1), .int .u64 (wd a 2), .int .u64 (wd a 3)] := hd 36 _ 91 rfl rfl (by kernel_rfl)
      have h92 : act.eval (.tmp 92) = .agg #[.int .u64 (wd c 0), .int .u64 (wd c 1), .int .u64 (wd c 2), .int .u64 (wd c 3)] := hd 37 _ 92 rfl rfl (by kernel_rfl)
      exact g_build2 rfl h91 h92,
    by
      intro _ act W hS hun hd
      have h93 : ClsAt W W.heap.size (act.eval (.tmp 93)) [a, c] := hd 38 _ 93 rfl rfl (by kernel_rfl)
      exact g_call (f := 28) rfl en28 (by simp only [List.map_toArray, List.map_cons, List.map_nil]) (andf_as _ [a, c] (fun i => a i && c i) (by intro i _; simp only [anyS, allS, List.any_cons, List.any_nil, List.all_cons, List.all_nil]; cases a i <;> cases b i <;> cases c i <;> rfl) W h93),
    by
      intro _ act W hS hun hd
      have h90 : act.eval (.tmp 90) = .agg #[.int .u64 (wd ((fun i => a i && b i)) 0), .int .u64 (wd ((fun i => a i && b i)) 1), .int .u64 (wd ((fun i => a i && b i)) 2), .int .u64 (wd ((fun i => a i && b i)) 3)] := hd 35 _ 90 rfl rfl (by kernel_rfl)
      have h94 : act.eval (.tmp 94) = .agg #[.int .u64 (wd ((fun i => a i && c i)) 0), .int .u64 (wd ((fun i => a i && c i)) 1), .int .u64 (wd ((fun i => a i && c i)) 2), .int .u64 (wd ((fun i => a i && c i)) 3)] := hd 39 _ 94 rfl rfl (by kernel_rfl)
      exact g_build2 rfl h90 h94,
    by
      intro _ act W hS hun hd
      have h95 : ClsAt W W.heap.size (act.eval (.tmp 95)) [(fun i => a i && b i), (fun i => a i && c i)] := hd 40 _ 95 rfl rfl (by kernel_rfl)
      exact g_call (f := 26) rfl en26 (by simp only [List.map_toArray, List.map_cons, List.map_nil]) (orf_as _ [(fun i => a i && b i), (fun i => a i && c i)] (fun i => a i && (b i || c i)) (by intro i _; simp only [anyS, allS, List.any_cons, List.any_nil, List.all_cons, List.all_nil]; cases a i <;> cases b i <;> cases c i <;> rfl) W h95),
    by
      intro _ act W hS hun hd
      have h86 : act.eval (.tmp 86) = .agg #[.int .u64 (wd ((fun i => a i && (b i || c i))) 0), .int .u64 (wd ((fun i => a i && (b i || c i))) 1), .int .u64 (wd ((fun i => a i && (b i || c i))) 2), .int .u64 (wd ((fun i => a i && (b i || c i))) 3)] := hd 31 _ 86 rfl rfl (by kernel_rfl)
      have h96 : act.eval (.tmp 96) = .agg #[.int .u64 (wd ((fun i => a i && (b i || c i))) 0), .int .u64 (wd ((fun i => a i && (b i || c i))) 1), .int .u64 (wd ((fun i => a i && (b i || c i))) 2), .int .u64 (wd ((fun i => a i && (b i || c i))) 3)] := hd 41 _ 96 rfl rfl (by kernel_rfl)
      exact g_eql25 rfl h86 h96 rfl,
    by
      intro _ act W hS hun hd
      have h79 : act.eval (.tmp 79) = .bool true := hd 24 _ 79 rfl rfl (by kernel_rfl)
      have h97 : act.eval (.tmp 97) = .bool true := hd 42 _ 97 rfl rfl (by kernel_rfl)
      exact g_pick rfl h79 h97 rfl,
    by
      intro _ act W hS hun hd
      have h98 : act.eval (.tmp 98) = .bool true := hd 43 _ 98 rfl rfl (by kernel_rfl)
      exact g_move rfl h98,
    by
      intro _ act W hS hun hd
      exact g_load4 rfl (hun 3 (by kernel_rfl)) (bA.below hS bA.lt) rfl,
    by
      intro _ act W hS hun hd
      have h100 : act.eval (.tmp 100) = .agg #[.int .u64 (wd a 0), .int .u64 (wd a 1), .int .u64 (wd a 2), .int .u64 (wd a 3)] := hd 45 _ 100 rfl rfl (by kernel_rfl)
      exact g_call (f := 19) rfl en19 (by simp only [List.map_toArray, List.map_cons, List.map_nil, h100]) (len_as a (cntN a 256) (rfl) W),
    by
      intro _ act W hS hun hd
      exact g_load4 rfl (hun 4 (by kernel_rfl)) (bB.below hS bB.lt) rfl,
    by
      intro _ act W hS hun hd
      have h102 : act.eval (.tmp 102) = .agg #[.int .u64 (wd b 0), .int .u64 (wd b 1), .int .u64 (wd b 2), .int .u64 (wd b 3)] := hd 47 _ 102 rfl rfl (by kernel_rfl)
      exact g_call (f := 19) rfl en19 (by simp only [List.map_toArray, List.map_cons, List.map_nil, h102]) (len_as b (cntN b 256) (rfl) W),
    by
      intro _ act W hS hun hd
      have h101 : act.eval (.tmp 101) = .int .i64 (cntN a 256) := hd 46 _ 101 rfl rfl (by kernel_rfl)
      have h103 : act.eval (.tmp 103) = .int .i64 (cntN b 256) := hd 48 _ 103 rfl rfl (by kernel_rfl)
      exact g_addi rfl h101 h103 (by have := cntN_le a 256; have := cntN_le b 256; omega) rfl,
    by
      intro _ act W hS hun hd
      exact g_load4 rfl (hun 3 (by kernel_rfl)) (bA.below hS bA.lt) rfl,
    by
      intro _ act W hS hun hd
      exact g_load4 rfl (hun 4 (by kernel_rfl)) (bB.below hS bB.lt) rfl,
    by
      intro _ act W hS hun hd
      have h105 : act.eval (.tmp 105) = .agg #[.int .u64 (wd a 0), .int .u64 (wd a 1), .int .u64 (wd a 2), .int .u64 (wd a 3)] := hd 50 _ 105 rfl rfl (by kernel_rfl)
      have h106 : act.eval (.tmp 106) = .agg #[.int .u64 (wd b 0), .int .u64 (wd b 1), .int .u64 (wd b 2), .int .u64 (wd b 3)] := hd 51 _ 106 rfl rfl (by kernel_rfl)
      exact g_build2 rfl h105 h106,
    by
      intro _ act W hS hun hd
      have h107 : ClsAt W W.heap.size (act.eval (.tmp 107)) [a, b] := hd 52 _ 107 rfl rfl (by kernel_rfl)
      exact g_call (f := 26) rfl en26 (by simp only [List.map_toArray, List.map_cons, List.map_nil]) (orf_as _ [a, b] (fun i => a i || b i) (by intro i _; simp only [anyS, allS, List.any_cons, List.any_nil, List.all_cons, List.all_nil]; cases a i <;> cases b i <;> cases c i <;> rfl) W h107),
    by
      intro _ act W hS hun hd
      have h108 : act.eval (.tmp 108) = .agg #[.int .u64 (wd ((fun i => a i || b i)) 0), .int .u64 (wd ((fun i => a i || b i)) 1), .int .u64 (wd ((fun i => a i || b i)) 2), .int .u64 (wd ((fun i => a i || b i)) 3)] := hd 53 _ 108 rfl rfl (by kernel_rfl)
      exact g_call (f := 19) rfl en19 (by simp only [List.map_toArray, List.map_cons, List.map_nil, h108]) (len_as (fun i => a i || b i) (cntN (fun i => a i || b i) 256) (rfl) W),
    by
      intro _ act W hS hun hd
      exact g_load4 rfl (hun 3 (by kernel_rfl)) (bA.below hS bA.lt) rfl,
    by
      intro _ act W hS hun hd
      exact g_load4 rfl (hun 4 (by kernel_rfl)) (bB.below hS bB.lt) rfl,
    by
      intro _ act W hS hun hd
      have h110 : act.eval (.tmp 110) = .agg #[.int .u64 (wd a 0), .int .u64 (wd a 1), .int .u64 (wd a 2), .int .u64 (wd a 3)] := hd 55 _ 110 rfl rfl (by kernel_rfl)
      have h111 : act.eval (.tmp 111) = .agg #[.int .u64 (wd b 0), .int .u64 (wd b 1), .int .u64 (wd b 2), .int .u64 (wd b 3)] := hd 56 _ 111 rfl rfl (by kernel_rfl)
      exact g_build2 rfl h110 h111,
    by
      intro _ act W hS hun hd
      have h112 : ClsAt W W.heap.size (act.eval (.tmp 112)) [a, b] := hd 57 _ 112 rfl rfl (by kernel_rfl)
      exact g_call (f := 28) rfl en28 (by simp only [List.map_toArray, List.map_cons, List.map_nil]) (andf_as _ [a, b] (fun i => a i && b i) (by intro i _; simp only [anyS, allS, List.any_cons, List.any_nil, List.all_cons, List.all_nil]; cases a i <;> cases b i <;> cases c i <;> rfl) W h112),
    by
      intro _ act W hS hun hd
      have h113 : act.eval (.tmp 113) = .agg #[.int .u64 (wd ((fun i => a i && b i)) 0), .int .u64 (wd ((fun i => a i && b i)) 1), .int .u64 (wd ((fun i => a i && b i)) 2), .int .u64 (wd ((fun i => a i && b i)) 3)] := hd 58 _ 113 rfl rfl (by kernel_rfl)
      exact g_call (f := 19) rfl en19 (by simp only [List.map_toArray, List.map_cons, List.map_nil, h113]) (len_as (fun i => a i && b i) (cntN (fun i => a i && b i) 256) (rfl) W),
    by
      intro _ act W hS hun hd
      have h109 : act.eval (.tmp 109) = .int .i64 (cntN (fun i => a i || b i) 256) := hd 54 _ 109 rfl rfl (by kernel_rfl)
      have h114 : act.eval (.tmp 114) = .int .i64 (cntN (fun i => a i && b i) 256) := hd 59 _ 114 rfl rfl (by kernel_rfl)
      exact g_addi rfl h109 h114 (by have := cntN_le (fun i => a i || b i) 256; have := cntN_le (fun i => a i && b i) 256; omega) rfl,
    by
      intro _ act W hS hun hd
      have h104 : act.eval (.tmp 104) = .int .i64 (cntN a 256 + cntN b 256) := hd 49 _ 104 rfl rfl (by kernel_rfl)
      have h115 : act.eval (.tmp 115) = .int .i64 (cntN (fun i => a i || b i) 256 + cntN (fun i => a i && b i) 256) := hd 60 _ 115 rfl rfl (by kernel_rfl)
      exact g_eqli rfl h104 h115 (by rw [beq_iff_eq]; exact cnt_orand a b 256) rfl,
    by
      intro _ act W hS hun hd
      have h99 : act.eval (.tmp 99) = .bool true := hd 44 _ 99 rfl rfl (by kernel_rfl)
      have h116 : act.eval (.tmp 116) = .bool true := hd 61 _ 116 rfl rfl (by kernel_rfl)
      exact g_pick rfl h99 h116 rfl,
    by
      intro _ act W hS hun hd
      have h117 : act.eval (.tmp 117) = .bool true := hd 62 _ 117 rfl rfl (by kernel_rfl)
      exact g_move rfl h117,
    by
      intro _ act W hS hun hd
      exact g_call (f := 15) rfl en15 (by simp only [List.map_toArray, List.map_cons, List.map_nil]; rfl) (range_as _ _ al (by intro i hi; rw [HAL.out]; simp [rng]; omega) (by decide) (by decide) W),
    by
      intro _ act W hS hun hd
      exact g_load4 rfl (hun 8 (by kernel_rfl)) (bAll.below hS bAll.lt) rfl,
    by
      intro _ act W hS hun hd
      have h119 : act.eval (.tmp 119) = .agg #[.int .u64 (wd al 0), .int .u64 (wd al 1), .int .u64 (wd al 2), .int .u64 (wd al 3)] := hd 64 _ 119 rfl rfl (by kernel_rfl)
      have h120 : act.eval (.tmp 120) = .agg #[.int .u64 (wd al 0), .int .u64 (wd al 1), .int .u64 (wd al 2), .int .u64 (wd al 3)] := hd 65 _ 120 rfl rfl (by kernel_rfl)
      exact g_eql25 rfl h119 h120 rfl,
    by
      intro _ act W hS hun hd
      have h118 : act.eval (.tmp 118) = .bool true := hd 63 _ 118 rfl rfl (by kernel_rfl)
      have h121 : act.eval (.tmp 121) = .bool true := hd 66 _ 121 rfl rfl (by kernel_rfl)
      exact g_pick rfl h118 h121 rfl,
    by
      intro _ act W hS hun hd
      have h122 : act.eval (.tmp 122) = .bool true := hd 67 _ 122 rfl rfl (by kernel_rfl)
      exact g_assign rfl h122,
    trivial⟩ ?_
  intro g W' hW' hg
  have h6 : g 6 = .bool true := hg 68 _ 6 rfl rfl
  rw [h6]
  go_wp2_with fail
  go_ret
  exact ⟨rfl, B8.trans (hW'.mono B8.size)⟩
end Go.Proofs.YtcnikeeapillnaaDoor

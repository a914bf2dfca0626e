/- Rows of what a law holds of; who comes in next; all of which something holds. -/
import Derived.Test.YtlbjmkljmhfjdaaGreatB3
import Derived.Test.YtlbjmkljmhfjdaaGreatB4
import Derived.Maps.AppendAt
set_option linter.unusedSimpArgs false
set_option linter.unusedVariables false
namespace Go.Proofs.YtlbjmkljmhfjdaaGreat
open Go Go.RowKit Go.Maps
def rowOf' (n : Nat) (p : Nat → Bool) : List Nat := (List.range n).filter p
theorem rowOf_succ (n : Nat) (p : Nat → Bool) : rowOf' (n + 1) p = if p n then rowOf' n p ++ [n] else rowOf' n p := by
  unfold rowOf'
  rw [List.range_succ, List.filter_append]
  cases h : p n <;> simp [h]
theorem rowOf_mem {n : Nat} {p : Nat → Bool} {i : Nat} : i ∈ rowOf' n p ↔ i < n ∧ p i = true := by simp [rowOf']
theorem rowOf_len (p : Nat → Bool) : ∀ n : Nat, (rowOf' n p).length ≤ n
  | 0 => by simp [rowOf']
  | n + 1 => by rw [rowOf_succ]; have := rowOf_len p n; split <;> simp <;> omega
theorem rowOf_congr {n : Nat} {p q : Nat → Bool} (h : ∀ i, i < n → p i = q i) : rowOf' n p = rowOf' n q := by
  unfold rowOf'
  exact List.filter_congr fun i hi => h i (by simpa using hi)
def nums (l : List Nat) : List Int := l.map fun (k : Nat) => (k : Int)
theorem nums_len (l : List Nat) : (nums l).length = l.length := by simp [nums]
theorem nums_app (l : List Nat) (k : Nat) : nums (l ++ [k]) = nums l ++ [(k : Int)] := by simp [nums]
theorem nums_at {l : List Nat} {i : Nat} : (nums l).getD i 0 = (l.getD i 0 : Nat) := by
  simp only [nums, List.getD, List.getElem?_map]
  cases l[i]? <;> simp
theorem bodies_in {len : Nat} {ms : Nat → Meas} (h1 : ∀ m, m < len → 1 ≤ (ms m).1) : ∀ (l : List Rl) (next to : Int), 0 ≤ next → bodies len ms l next = some to → ∀ i, i < l.length → 0 ≤ (l.getD i Rl.zero).body ∧ (l.getD i Rl.zero).body < len
  | [], _, _, _, _, i, hi => by simp at hi
  | r :: l, next, to, hn, h, i, hi => by
    unfold bodies at h
    split at h
    · rename_i hc
      obtain ⟨a, b, _⟩ := hc
      have hm := h1 next.toNat (by omega)
      cases i with
      | zero => show 0 ≤ r.body ∧ r.body < len; omega
      | succ i =>
        have := bodies_in h1 l _ to (by omega) h i (by simpa using hi)
        simpa using this
    · cases h
theorem Right.body {g : Gr} (h : Right g) (i : Nat) (hi : i < g.rules.length) : 0 ≤ (g.rules.getD i Rl.zero).body ∧ (g.rules.getD i Rl.zero).body < g.nodes.length := by
  obtain ⟨ms, hm, hb⟩ := h.pre
  exact bodies_in (fun m hl => (hm m (by omega) hl).1) g.rules 0 _ (by omega) hb i hi
/-- A rising row that is told. -/
def Row (w : World) (L : List Nat) (e : Ending) (w' : World) : Prop := (∃ v, e = .returned v ∧ w'.ownsRow w.heap.size 3 1 v L.length (ints (nums L)) ∧ (v = .slice none 0 0 ↔ L = [])) ∧ Below w.heap.size w w'
theorem row_nil (w w' : World) (hb : Below w.heap.size w w') : Row w [] (.returned (.slice none 0 0)) w' := ⟨⟨_, rfl, World.ownsRow_nil _ _ _ _, by simp⟩, hb⟩
set_option maxRecDepth 100000 in
set_option maxHeartbeats 2000000 in
theorem all_in (m p : Nat) (q : Nat → Bool) (hm : m ≤ 100000) (w : World)
    (hP : ∀ W, Below w.heap.size w W → ∀ r, r < m → Calls Tryz.prog 298 #[.pointer (some ⟨p, 0, none⟩), .int .i64 r] W fun e w' => e = .returned (.bool (q r)) ∧ Below W.heap.size W w') :
    Calls Tryz.prog 204 #[.int .i64 m, .func (.func 298) #[.pointer (some ⟨p, 0, none⟩)] #[]] w (Row w (rowOf' m q)) := by
  obtain ⟨i0, hi, hz0, hz1, hz2⟩ := info_parts Tryz.info3
  have HP := Lib.hid hP
  clear hP
  go_enter Tryz.func204, Tryz.ntmps204
  go_wp2_with fail
  go_loopw [5, 8] (fun l i wr => ∃ k : Nat, k ≤ m ∧ i = .int .i64 k ∧ wr.ownsRow w.heap.size 3 1 l (rowOf' k q).length (ints (nums (rowOf' k q))) ∧ (l = .slice none 0 0 ↔ rowOf' k q = []) ∧ Below w.heap.size w wr) (fun _ i _ => m - (RowKit.intOf i).toNat)
  case atStart => exact ⟨0, by omega, by go_num, World.ownsRow_nil _ _ _ _, by simp [rowOf'], Below.refl _ _⟩
  case round =>
    obtain ⟨k, hk, rfl, hown, hnil, hb⟩ := hrel
    by_cases hlt : k < m
    · have hlt2 : (k : Int) < m := by omega
      have C := Lib.hid (HP.out wr hb k hlt)
      have RS := Lib.hid (rowOf_succ k q)
      have RL := Lib.hid (rowOf_len q k)
      have HO := Lib.hid hown
      have HN := Lib.hid hnil
      have HB := Lib.hid hb
      clear hown hnil hb
      cases hp : q k with
      | false =>
        rw [hp] at C RS
        clear hp
        go_wp2_with (go_at_call 298; (with_reducible refine C.out.mono ?_); rintro e w1 ⟨rfl, hb1⟩; have B1' := Lib.hid hb1; clear hb1)
        go_roundw
        case rel => exact ⟨k + 1, by omega, by go_num, by rw [RS.out]; exact own_below HO.out B1'.out, by rw [RS.out]; exact HN.out, HB.out.trans (B1'.out.mono HB.out.size)⟩
        case measure => simp [RowKit.intOf]; omega
      | true =>
        rw [hp] at C RS
        clear hp
        go_wp2_with (first | (go_at_call 298; (with_reducible refine C.out.mono ?_); rintro e w1 ⟨rfl, hb1⟩; have B1' := Lib.hid hb1; have O1 := Lib.hid (own_below HO.out hb1); have BW := Lib.hid (HB.out.trans (hb1.mono HB.out.size)); clear hb1) | (at_builtin; refine wpList_append_own _ rfl _ _ 38 rfl w.heap.size 3 i0 (.int .i64 0) 1 8 Tryz.underlying38 hi hz0 hz1 hz2 rfl (by decide) _ _ _ rfl (O1.out.alloc _) ⟨w1.heap.size, 0, none⟩ 1 1 [.int .i64 k] rfl rfl (cell_one_new _ _ _) (by simp [Value.oneCell']) (by unfold maxLen; have := RL.out; omega) (by have := RL.out; omega) (by have := BW.out.size; simp; omega) ?_; intro v' w9 hown' hgrow hnil'; have O9 := Lib.hid hown'; have G9 := Lib.hid hgrow; have N9 := Lib.hid hnil'; clear hown' hgrow hnil'))
        go_roundw
        case rel =>
          refine ⟨k + 1, by omega, by go_num, ?_, ?_, ?_⟩
          · rw [RS.out, if_pos trivial, List.length_append, nums_app]
            have := O9.out
            simpa [ints] using this
          · rw [RS.out, if_pos trivial, N9.out]
            simp
          · refine grown_below (w := w1.alloc _) (BW.out.trans ((B1 w1 _).mono BW.out.size)) (by have := BW.out.size; simp; omega) G9.out (fun j e => (O1.out.lt j e).1)
        case measure => simp [RowKit.intOf]; omega
    · obtain rfl : k = m := by omega
      have hlt2 : ¬ (k : Int) < k := by omega
      have HO := Lib.hid hown
      have HN := Lib.hid hnil
      have HB := Lib.hid hb
      clear hown hnil hb
      go_wp2_with fail
      go_ret
      exact ⟨⟨_, rfl, HO.out, HN.out⟩, HB.out⟩
set_option maxRecDepth 100000 in
set_option maxHeartbeats 2000000 in
theorem all_may (m p : Nat) (q : Nat → Bool) (hm : m ≤ 100000) (w : World)
    (hP : ∀ W, Below w.heap.size w W → ∀ r, r < m → Calls Tryz.prog 205 #[.pointer (some ⟨p, 0, none⟩), .int .i64 r] W fun e w' => e = .returned (.bool (q r)) ∧ Below W.heap.size W w') :
    Calls Tryz.prog 204 #[.int .i64 m, .func (.func 205) #[.pointer (some ⟨p, 0, none⟩)] #[]] w (Row w (rowOf' m q)) := by
  obtain ⟨i0, hi, hz0, hz1, hz2⟩ := info_parts Tryz.info3
  have HP := Lib.hid hP
  clear hP
  go_enter Tryz.func204, Tryz.ntmps204
  go_wp2_with fail
  go_loopw [5, 8] (fun l i wr => ∃ k : Nat, k ≤ m ∧ i = .int .i64 k ∧ wr.ownsRow w.heap.size 3 1 l (rowOf' k q).length (ints (nums (rowOf' k q))) ∧ (l = .slice none 0 0 ↔ rowOf' k q = []) ∧ Below w.heap.size w wr) (fun _ i _ => m - (RowKit.intOf i).toNat)
  case atStart => exact ⟨0, by omega, by go_num, World.ownsRow_nil _ _ _ _, by simp [rowOf'], Below.refl _ _⟩
  case round =>
    obtain ⟨k, hk, rfl, hown, hnil, hb⟩ := hrel
    by_cases hlt : k < m
    · have hlt2 : (k : Int) < m := by omega
      have C := Lib.hid (HP.out wr hb k hlt)
      have RS := Lib.hid (rowOf_succ k q)
      have RL := Lib.hid (rowOf_len q k)
      have HO := Lib.hid hown
      have HN := Lib.hid hnil
      have HB := Lib.hid hb
      clear hown hnil hb
      cases hp : q k with
      | false =>
        rw [hp] at C RS
        clear hp
        go_wp2_with (go_at_call 205; (with_reducible refine C.out.mono ?_); rintro e w1 ⟨rfl, hb1⟩; have B1' := Lib.hid hb1; clear hb1)
        go_roundw
        case rel => exact ⟨k + 1, by omega, by go_num, by rw [RS.out]; exact own_below HO.out B1'.out, by rw [RS.out]; exact HN.out, HB.out.trans (B1'.out.mono HB.out.size)⟩
        case measure => simp [RowKit.intOf]; omega
      | true =>
        rw [hp] at C RS
        clear hp
        go_wp2_with (first | (go_at_call 205; (with_reducible refine C.out.mono ?_); rintro e w1 ⟨rfl, hb1⟩; have B1' := Lib.hid hb1; have O1 := Lib.hid (own_below HO.out hb1); have BW := Lib.hid (HB.out.trans (hb1.mono HB.out.size)); clear hb1) | (at_builtin; refine wpList_append_own _ rfl _ _ 38 rfl w.heap.size 3 i0 (.int .i64 0) 1 8 Tryz.underlying38 hi hz0 hz1 hz2 rfl (by decide) _ _ _ rfl (O1.out.alloc _) ⟨w1.heap.size, 0, none⟩ 1 1 [.int .i64 k] rfl rfl (cell_one_new _ _ _) (by simp [Value.oneCell']) (by unfold maxLen; have := RL.out; omega) (by have := RL.out; omega) (by have := BW.out.size; simp; omega) ?_; intro v' w9 hown' hgrow hnil'; have O9 := Lib.hid hown'; have G9 := Lib.hid hgrow; have N9 := Lib.hid hnil'; clear hown' hgrow hnil'))
        go_roundw
        case rel =>
          refine ⟨k + 1, by omega, by go_num, ?_, ?_, ?_⟩
          · rw [RS.out, if_pos trivial, List.length_append, nums_app]
            have := O9.out
            simpa [ints] using this
          · rw [RS.out, if_pos trivial, N9.out]
            simp
          · refine grown_below (w := w1.alloc _) (BW.out.trans ((B1 w1 _).mono BW.out.size)) (by have := BW.out.size; simp; omega) G9.out (fun j e => (O1.out.lt j e).1)
        case measure => simp [RowKit.intOf]; omega
    · obtain rfl : k = m := by omega
      have hlt2 : ¬ (k : Int) < k := by omega
      have HO := Lib.hid hown
      have HN := Lib.hid hnil
      have HB := Lib.hid hb
      clear hown hnil hb
      go_wp2_with fail
      go_ret
      exact ⟨⟨_, rfl, HO.out, HN.out⟩, HB.out⟩
set_option maxRecDepth 100000 in
set_option maxHeartbeats 2000000 in
theorem coming_any {p mb rb : Nat} {g : Gr} {r : List Int} (hin : Gr.In g) (hR : Right g) (w : World) (h : Wrk w p g mb rb r) :
    Calls Tryz.prog 271 #[.pointer (some ⟨p, 0, none⟩)] w (Row w (rowOf' g.rules.length (comB g r))) := by
  obtain ⟨i0, hi, hz0, hz1, hz2⟩ := info_parts Tryz.info3
  have IN := Lib.hid (fun (W : World) (b : Below w.heap.size w W) (i : Nat) (hi : i < g.rules.length) => in_any (h.below b) i hi)
  have MY := Lib.hid (fun (W : World) (b : Below w.heap.size w W) (i : Nat) (hi : i < g.rules.length) => by
    have hb := hR.body i hi
    have := may_any hin hR g.nodes.length (g.rules.getD i Rl.zero).body.toNat (by omega) (by omega) W (h.below b)
    rw [show (((g.rules.getD i Rl.zero).body.toNat : Nat) : Int) = (g.rules.getD i Rl.zero).body by omega] at this
    exact this)
  have c0 := h.box.cell 0
  simp only [List.getElem?_toArray, List.getElem?_cons_zero, List.getElem?_cons_succ] at c0
  have HA := Lib.hid h.gr.rules
  have h32 := hR.rules.2
  have CB := Lib.hid (fun i : Nat => show comB g r i = (!inB r i && mayN g.nodes (inB r) (g.rules.getD i Rl.zero).body) from rfl)
  generalize comB g r = q at CB ⊢
  obtain ⟨m, em⟩ : ∃ m, m = g.rules.length := ⟨_, rfl⟩
  rw [← em] at c0 h32 IN MY ⊢
  have EM := Lib.hid em
  clear h hin hR em
  go_enter Tryz.func271, Tryz.ntmps271
  go_wp2_with fail
  clear c0
  go_loopw [3, 12] (fun l i wr => ∃ k : Nat, k ≤ m ∧ i = .int .i64 k ∧ wr.ownsRow w.heap.size 3 1 l (rowOf' k q).length (ints (nums (rowOf' k q))) ∧ (l = .slice none 0 0 ↔ rowOf' k q = []) ∧ Below w.heap.size w wr) (fun _ i _ => m - (RowKit.intOf i).toNat)
  case atStart => exact ⟨0, by omega, by go_num, World.ownsRow_nil _ _ _ _, by simp [rowOf'], Below.refl _ _⟩
  case round =>
    obtain ⟨k, hk, rfl, hown, hnil, hb⟩ := hrel
    by_cases hlt : k < m
    · have hlt2 : (k : Int) < m := by omega
      obtain ⟨b1, o1, eA, _, c1, c2⟩ := (HA.out.below hb).two (show k < g.rules.length by have := EM.out; omega)
      have EA := Lib.hid eA
      have I1 := Lib.hid (fun W (b : Below w.heap.size w W) => IN.out W b k hlt)
      have M1 := Lib.hid (fun W (b : Below w.heap.size w W) => MY.out W b k hlt)
      have RS := Lib.hid (rowOf_succ k q)
      have RL := Lib.hid (rowOf_len q k)
      have CK := CB.out k
      generalize g.rules.getD k Rl.zero = x at c1 c2 M1 CK
      obtain ⟨nm, bd⟩ := x
      dsimp only at c1 c2 M1 CK
      have HO := Lib.hid hown
      have HN := Lib.hid hnil
      have HB := Lib.hid hb
      clear hown hnil hb
      rw [eA]
      clear eA
      have up := Lib.hid (fun (o : Obj) => HB.out.alloc HB.out.size o)
      have ko := Lib.hid (fun (o : Obj) => own_below HO.out (B1 wr o))
      cases h1 : inB r k with
      | true =>
        have hp : q k = false := by rw [CK, h1]; rfl
        rw [h1] at I1
        rw [hp] at RS
        clear CK h1 hp
        go_wp2_with (go_at_call 298; with_reducible refine (I1.out _ (up.out _)).mono ?_; rintro e w1 ⟨rfl, rfl⟩)
        go_roundw
        case rel => exact ⟨k + 1, by omega, by go_num, by rw [RS.out]; exact ko.out _, by rw [RS.out]; exact HN.out, up.out _⟩
        case measure => simp [RowKit.intOf]; omega
      | false =>
        cases h2 : mayN g.nodes (inB r) bd with
        | false =>
          have hp : q k = false := by rw [CK, h1, h2]; rfl
          rw [h1] at I1
          rw [h2] at M1
          rw [hp] at RS
          clear CK h1 h2 hp
          go_wp2_with (first | (go_at_call 298; with_reducible refine (I1.out _ (up.out _)).mono ?_; rintro e w1 ⟨rfl, rfl⟩) | (go_at_call 205; with_reducible refine (M1.out _ (up.out _)).mono ?_; rintro e w1 ⟨rfl, hb1⟩; have BW := Lib.hid ((up.out _).trans (hb1.mono (up.out _).size)); have O1 := Lib.hid (own_below (ko.out _) hb1); clear hb1))
          go_roundw
          case rel => exact ⟨k + 1, by omega, by go_num, by rw [RS.out]; exact O1.out, by rw [RS.out]; exact HN.out, BW.out⟩
          case measure => simp [RowKit.intOf]; omega
        | true =>
          have hp : q k = true := by rw [CK, h1, h2]; rfl
          rw [h1] at I1
          rw [h2] at M1
          rw [hp] at RS
          clear CK h1 h2 hp
          go_wp2_with (first | (go_at_call 298; with_reducible refine (I1.out _ (up.out _)).mono ?_; rintro e w1 ⟨rfl, rfl⟩) | (go_at_call 205; with_reducible refine (M1.out _ (up.out _)).mono ?_; rintro e w1 ⟨rfl, hb1⟩; have BW := Lib.hid ((up.out _).trans (hb1.mono (up.out _).size)); have O1 := Lib.hid (own_below (ko.out _) hb1); clear hb1) | (at_builtin; refine wpList_append_own _ rfl _ _ 38 rfl w.heap.size 3 i0 (.int .i64 0) 1 8 Tryz.underlying38 hi hz0 hz1 hz2 rfl (by decide) _ _ _ rfl (O1.out.alloc _) ⟨w1.heap.size, 0, none⟩ 1 1 [.int .i64 k] rfl rfl (cell_one_new _ _ _) (by simp [Value.oneCell']) (by unfold maxLen; have := RL.out; omega) (by have := RL.out; omega) (by have := BW.out.size; simp; omega) ?_; intro v' w9 hown' hgrow hnil'; have O9 := Lib.hid hown'; have G9 := Lib.hid hgrow; have N9 := Lib.hid hnil'; clear hown' hgrow hnil'))
          go_roundw
          case rel =>
            refine ⟨k + 1, by omega, by go_num, ?_, ?_, ?_⟩
            · rw [RS.out, if_pos trivial, List.length_append, nums_app]
              have := O9.out
              simpa [ints] using this
            · rw [RS.out, if_pos trivial, N9.out]
              simp
            · refine grown_below (w := w1.alloc _) (BW.out.trans ((B1 w1 _).mono BW.out.size)) (by have := BW.out.size; simp; omega) G9.out (fun j e => (O1.out.lt j e).1)
          case measure => simp [RowKit.intOf]; omega
    · obtain rfl : k = m := by omega
      have hlt2 : ¬ (k : Int) < k := by omega
      have HO := Lib.hid hown
      have HN := Lib.hid hnil
      have HB := Lib.hid hb
      clear hown hnil hb
      go_wp2_with fail
      go_ret
      exact ⟨⟨_, rfl, HO.out, HN.out⟩, HB.out⟩
end Go.Proofs.YtlbjmkljmhfjdaaGreat

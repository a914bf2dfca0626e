/- A grammar measured; whether it is right. -/
import Derived.Test.YtjelgmdjmjnnfaaGreatB4
import Derived.Test.YtjelgmdjmjnnfaaGreatA7
import Derived.Maps.AppendAt
import Derived.Laws.OwnMore
import Derived.Test.YtjelgmdjmjnnfaaGreatA5
import Derived.Test.YtjelgmdjmjnnfaaGreatA6
set_option linter.unusedSimpArgs false
set_option linter.unusedVariables false
namespace Go.Proofs.YtjelgmdjmjnnfaaGreat
open Go Go.RowKit
def MeasEnd (w : World) (g : Gr) (e : Ending) (w' : World) : Prop :=
  ∃ v, e = .returned (.tuple #[v, .bool (rightB g)]) ∧ Below w.heap.size w w' ∧ (rightB g = true → ∃ ms, Measured g.nodes ms 0 ∧ MeasAt w' v g.nodes.length ms) ∧ (rightB g = false → v = .slice none 0 0)
theorem measEnd_no {w w' : World} {g : Gr} (h : rightB g = false) (hb : Below w.heap.size w w') : MeasEnd w g (.returned (.tuple #[.slice none 0 0, .bool false])) w' :=
  ⟨_, by rw [h], hb, (fun e => by rw [h] at e; cases e), (fun _ => rfl)⟩
theorem namedB_iff {l : List Rl} : namedB l = true ↔ Named l := by unfold namedB; simp
theorem allB_iff {l : List Nd} {r : Int} : allB l r = true ↔ AllRight l r := by unfold allB; simp
theorem bodB_congr {l : List Nd} {ms ms' : Nat → Meas} {r : List Rl} (h : Measured l ms 0) (h' : Measured l ms' 0) : bodB l.length ms r = bodB l.length ms' r := by
  unfold bodB
  rw [bodies_congr (fun m hl => (h m (by omega) hl).1) (measured_eq h h') r 0 (by omega)]
set_option maxRecDepth 100000 in
set_option maxHeartbeats 4000000 in
theorem measured_any (g : Gr) (w : World) (hg : Gr.At w g) (hin : Gr.In g) : Calls Tryz.prog 146 #[g.val] w (MeasEnd w g) := by
  have hr := hg.rl
  have hn := hg.nl
  have NM := Lib.hid (fun (w' : World) (b : Below w.heap.size w w') => named_any g w' (hg.below b) hg.rl)
  have AL := Lib.hid (fun (w' : World) (b : Below w.heap.size w w') => allRight_any g w' (hg.below b) hin)
  by_cases h1 : 1 ≤ g.rules.length ∧ g.rules.length ≤ 32
  · have hd : decide ((1 : Int) ≤ g.rules.length ∧ (g.rules.length : Int) ≤ 32) = true := by simp; omega
    have W33 := Lib.hid (fun w => by have := within_any 1 g.rules.length 32 w; rw [hd] at this; exact this)
    by_cases h2 : g.nodes.length ≤ 2048
    · have h2' : ¬ (2048 : Int) < g.nodes.length := by omega
      have h2'' : (g.nodes.length : Int) ≤ 2048 := by omega
      have PR := Lib.hid (fun (w' : World) (b : Below w.heap.size w w') => pre_any g.NA g.nc g.nodes h2 w' (hg.below b).nodes (hg.below b).kids)
      have BO := Lib.hid (fun (gb : Nat) (ms : Nat → Meas) (hm : Measured g.nodes ms 0) (w' : World) (b : Below w.heap.size w w') (hM : MeasAt w' (.slice (some ⟨gb, 0, none⟩) g.nodes.length g.nodes.length) g.nodes.length ms) => bodied_any g.RA g.rc g.rules hg.rl gb g.nodes.length ms h2 (fun i hi => ⟨(hm i (by omega) hi).1, (hm i (by omega) hi).2.1, (hm i (by omega) hi).2.2.1⟩) w' (hg.below b).rules hM)
      have RI := Lib.hid (show rightB g = true ↔ (namedB g.rules = true ∧ allB g.nodes g.rules.length = true ∧ ∃ ms, Measured g.nodes ms 0 ∧ bodB g.nodes.length ms g.rules = true) from by
        rw [rightB_true, namedB_iff, allB_iff]
        unfold bodB
        simp only [decide_eq_true_eq]
        exact ⟨fun h => ⟨h.named, h.all, h.pre⟩, fun ⟨a, b, c⟩ => ⟨h1, h2, a, b, c⟩⟩)
      have PI := Lib.hid (preB_true (l := g.nodes))
      obtain ⟨nb, enb⟩ : ∃ b, b = namedB g.rules := ⟨_, rfl⟩
      obtain ⟨ab, eab⟩ : ∃ b, b = allB g.nodes g.rules.length := ⟨_, rfl⟩
      rw [← enb] at NM RI
      rw [← eab] at AL RI
      clear hd enb eab h1 h2 hg hin
      cases nb with
      | false =>
        have HF : RowKit.Hid (rightB g = false) := Lib.hid (by rw [Bool.eq_false_iff]; intro h; have := (RI.out.1 h).1; cases this)
        go_enter Tryz.func146, Tryz.ntmps146
        go_wp2_with (first | (go_at_call 175; refine (W33.out _).mono ?_; rintro e w1 ⟨rfl, rfl⟩) | (go_at_call 176; refine (NM.out _ (B1 _ _)).mono ?_; rintro e w1 ⟨rfl, hb⟩; have H1 := Lib.hid (bb (B1 w _) hb); clear hb))
        go_ret2
        exact measEnd_no HF.out H1.out
      | true =>
        cases ab with
        | false =>
          have HF : RowKit.Hid (rightB g = false) := Lib.hid (by rw [Bool.eq_false_iff]; intro h; have := (RI.out.1 h).2.1; cases this)
          go_enter Tryz.func146, Tryz.ntmps146
          go_wp2_with (first | (go_at_call 175; refine (W33.out _).mono ?_; rintro e w1 ⟨rfl, rfl⟩) | (go_at_call 176; refine (NM.out _ (B1 _ _)).mono ?_; rintro e w1 ⟨rfl, hb⟩; have H1 := Lib.hid (bb (B1 w _) hb); have d0 := ((Blk.new w _ _).below' hb).cell 0; have d1 := ((Blk.new w _ _).below' hb).cell 1; simp only [List.getElem?_toArray, List.getElem?_cons_zero, List.getElem?_cons_succ] at d0 d1; clear hb) | (go_at_call 177; refine (AL.out _ H1.out).mono ?_; rintro e w2 ⟨rfl, hb⟩; have H2 := Lib.hid (bb H1.out hb); clear hb))
          go_ret2
          exact measEnd_no HF.out H2.out
        | true =>
          cases hp : preB g.nodes with
          | false =>
            have HF : RowKit.Hid (rightB g = false) := Lib.hid (by rw [Bool.eq_false_iff]; intro h; obtain ⟨ms, h3, _⟩ := (RI.out.1 h).2.2; exact preB_false.1 hp ⟨ms, h3⟩)
            have HP := Lib.hid hp
            clear hp
            go_enter Tryz.func146, Tryz.ntmps146
            go_wp2_with (first | (go_at_call 175; refine (W33.out _).mono ?_; rintro e w1 ⟨rfl, rfl⟩) | (go_at_call 176; refine (NM.out _ (B1 _ _)).mono ?_; rintro e w1 ⟨rfl, hb⟩; have H1 := Lib.hid (bb (B1 w _) hb); have K1 := Lib.hid ((Blk.new w _ _).below' hb); have d0 := K1.out.cell 0; have d1 := K1.out.cell 1; simp only [List.getElem?_toArray, List.getElem?_cons_zero, List.getElem?_cons_succ] at d0 d1; clear hb) | (go_at_call 177; refine (AL.out _ H1.out).mono ?_; rintro e w2 ⟨rfl, hb⟩; have H2 := Lib.hid (bb H1.out hb); have e1 := (K1.out.below' hb).cell 1; simp only [List.getElem?_toArray, List.getElem?_cons_zero, List.getElem?_cons_succ] at e1; clear hb) | (go_at_call 178; refine (PR.out _ H2.out).mono ?_; rintro e w3 ⟨v, rfl, hb, _, hv⟩; obtain rfl := hv HP.out; have H3 := Lib.hid (bb H2.out hb); have hpf := HP.out; clear hb hv))
            go_ret2
            exact measEnd_no HF.out H3.out
          | true =>
            have HP := Lib.hid hp
            clear hp
            go_enter Tryz.func146, Tryz.ntmps146
            go_wp2_with (first | (go_at_call 175; refine (W33.out _).mono ?_; rintro e w1 ⟨rfl, rfl⟩) | (go_at_call 176; refine (NM.out _ (B1 _ _)).mono ?_; rintro e w1 ⟨rfl, hb⟩; have H1 := Lib.hid (bb (B1 w _) hb); have K1 := Lib.hid ((Blk.new w _ _).below' hb); have d0 := K1.out.cell 0; have d1 := K1.out.cell 1; simp only [List.getElem?_toArray, List.getElem?_cons_zero, List.getElem?_cons_succ] at d0 d1; clear hb) | (go_at_call 177; refine (AL.out _ H1.out).mono ?_; rintro e w2 ⟨rfl, hb⟩; have H2 := Lib.hid (bb H1.out hb); have K2 := Lib.hid (K1.out.below' hb); have e1 := K2.out.cell 1; simp only [List.getElem?_toArray, List.getElem?_cons_zero, List.getElem?_cons_succ] at e1; clear hb) | (go_at_call 178; refine (PR.out _ H2.out).mono ?_; rintro e w3 ⟨v, rfl, hb, hv, _⟩; obtain ⟨ms, hm, gb, rfl, hgl, hmc⟩ := hv HP.out; have HM := Lib.hid hm; have MA : RowKit.Hid (MeasAt w3 (.slice (some ⟨gb, 0, none⟩) g.nodes.length g.nodes.length) g.nodes.length ms) := Lib.hid ⟨gb, rfl, hgl, hmc⟩; have H3 := Lib.hid (bb H2.out hb); have f0 := (K2.out.below' hb).cell 0; simp only [List.getElem?_toArray, List.getElem?_cons_zero, List.getElem?_cons_succ] at f0; have hpf := HP.out; clear hb hv hm hmc) | (go_at_call 179; refine (BO.out gb ms HM.out _ H3.out MA.out).mono ?_; rintro e w4 ⟨rfl, hb⟩; have H4 := Lib.hid (bb H3.out hb); have M4 := Lib.hid (MA.out.below hb); clear hb f0 e1 d0 d1))
            all_goals go_ret2
            · have hbo : bodB g.nodes.length ms g.rules = false := by have h : (!bodB g.nodes.length ms g.rules) = true := (by assumption); simpa using h
              refine measEnd_no ?_ H4.out
              rw [Bool.eq_false_iff]
              intro h
              obtain ⟨ms', h3, h4⟩ := (RI.out.1 h).2.2
              rw [bodB_congr h3 HM.out, hbo] at h4
              cases h4
            · have hbo : bodB g.nodes.length ms g.rules = true := by have h : (!bodB g.nodes.length ms g.rules) = false := (by assumption); simpa using h
              have HR : rightB g = true := RI.out.2 ⟨by first | rfl | trivial, by first | rfl | trivial, ms, HM.out, hbo⟩
              refine ⟨.slice (some ⟨gb, 0, none⟩) g.nodes.length g.nodes.length, ?_, H4.out, (fun _ => ⟨ms, HM.out, M4.out⟩), (fun e => by rw [HR] at e; cases e)⟩
              rw [HR]
              rfl
    · have h2' : (2048 : Int) < g.nodes.length := by omega
      have HF : RowKit.Hid (rightB g = false) := Lib.hid (rightB_false.2 fun h => h2 h.nodes)
      clear h2 hd hg hin NM AL h1
      go_enter Tryz.func146, Tryz.ntmps146
      go_wp2_with (go_at_call 175; refine (W33.out _).mono ?_; rintro e w1 ⟨rfl, rfl⟩)
      go_ret2
      exact measEnd_no HF.out (B1 _ _)
  · have hd : decide ((1 : Int) ≤ g.rules.length ∧ (g.rules.length : Int) ≤ 32) = false := by simp; omega
    have W33 := Lib.hid (fun w => by have := within_any 1 g.rules.length 32 w; rw [hd] at this; exact this)
    have HF : RowKit.Hid (rightB g = false) := Lib.hid (rightB_false.2 fun h => h1 h.rules)
    clear h1 hd hg hin NM AL
    go_enter Tryz.func146, Tryz.ntmps146
    go_wp2_with (go_at_call 175; refine (W33.out _).mono ?_; rintro e w1 ⟨rfl, rfl⟩)
    go_ret2
    exact measEnd_no HF.out (B1 _ _)
theorem right_all (g : Gr) (w : World) (hg : Gr.At w g) (hin : Gr.In g) : Calls Tryz.prog 106 #[g.val] w fun e w' => e = .returned (.bool (rightB g)) ∧ Below w.heap.size w w' := by
  have M := Lib.hid (fun (w' : World) (b : Below w.heap.size w w') => measured_any g w' (hg.below b) hin)
  clear hg hin
  go_enter Tryz.func106, Tryz.ntmps106
  go_wp2_with (go_at_call 146; refine (M.out _ (B1 _ _)).mono ?_; rintro e w1 ⟨v, rfl, hb, _, _⟩; have H1 := Lib.hid (bb (B1 w _) hb); clear hb)
  go_ret
  exact ⟨rfl, H1.out⟩
/-- What is told of a node: how many nodes it has, its height. -/
noncomputable def measOf (g : Gr) (n : Int) : Meas := by
  classical exact if h : ∃ ms, Right g ∧ Measured g.nodes ms 0 ∧ 0 ≤ n ∧ n < g.nodes.length then (Classical.choose h) n.toNat else (0, 0)
theorem measOf_yes {g : Gr} {ms : Nat → Meas} (hr : Right g) (hm : Measured g.nodes ms 0) {n : Nat} (hn : n < g.nodes.length) : measOf g n = ms n := by
  have h : ∃ ms, Right g ∧ Measured g.nodes ms 0 ∧ (0 : Int) ≤ n ∧ (n : Int) < g.nodes.length := ⟨ms, hr, hm, by omega, by omega⟩
  unfold measOf
  rw [dif_pos h, Int.toNat_natCast]
  exact measured_eq (Classical.choose_spec h).2.1 hm n hn
theorem measOf_no {g : Gr} {n : Int} (h : ¬ (Right g ∧ 0 ≤ n ∧ n < g.nodes.length)) : measOf g n = (0, 0) := by
  unfold measOf
  rw [dif_neg (fun ⟨_, a, _, b, c⟩ => h ⟨a, b, c⟩)]
@[go_sem] theorem field76_0 (x y : Int) (w : World) : (Instr.field 222 (.agg #[.int .i64 x, .int .i64 y]) 0).run Tryz.prog w = .ok (.int .i64 x) w := by kernel_rfl
@[go_sem] theorem field76_1 (x y : Int) (w : World) : (Instr.field 222 (.agg #[.int .i64 x, .int .i64 y]) 1).run Tryz.prog w = .ok (.int .i64 y) w := by kernel_rfl
end Go.Proofs.YtjelgmdjmjnnfaaGreat
namespace Go.Proofs.YtjelgmdjmjnnfaaGreat
open Go Go.RowKit
theorem run_append_onto {P : Program} (w : World) (base : Nat) (t ty e : TypeId) (i : TypeInfo) (z : Value) (size bytes : Nat) (ht : P.underlying t = some (.slice e)) (hi : P.info? e = some i) (hz : i.zero = some z)
    (hsize : i.size = size) (hby : i.bytes = bytes) (hzs : z.cells.size = size) (hsz : 0 < size)
    (v : Value) (n : Nat) (xs : List Value) (hown : w.ownsRow base e size v n xs) (A : Option Addr) (m c : Nat) (news : List Value) (hl : news.length = m * size)
    (hnews : ∀ a, A = some a → ∀ j u, news[j]? = some u → w.cell? (a.add j) = some u) (hnone : A = none → m = 0 ∧ c = 0) (h1 : ∀ u ∈ news, u.oneCell' = true)
    (h63 : n + m ≤ maxLen) (hbytes : (n + m) * bytes ≤ 140737488355328) (hbase : base ≤ w.heap.size) :
    ∃ v' w', (Builtin.append_ #[t, t] ty #[v, .slice A m c]).run P w = .ok v' w' ∧ w'.ownsRow base e size v' (n + m) (xs ++ news) ∧ w.grownBy w' v.ownBlock ∧ (∀ k, v'.ownBlock = some k → v.ownBlock = some k ∨ w.heap.size ≤ k) := by
  cases A with
  | none =>
    obtain ⟨rfl, rfl⟩ := hnone rfl
    have h0 : news = [] := List.eq_nil_of_length_eq_zero (by simpa using hl)
    subst h0
    exact ⟨v, w, run_append_owned_none w base t ty e i size ht hi v n xs hown, by simpa using hown, World.grownBy.refl _ _, fun _ h => .inl h⟩
  | some a =>
    have hnews' := hnews a rfl
    obtain ⟨v', w', hrun, hown', hg, hnn⟩ := run_append_own (P := P) w base t ty e i z size bytes ht hi hz hsize hby hzs hsz v n xs hown a m c news hl hnews' h1 h63 hbytes hbase
    refine ⟨v', w', hrun, hown', hg, ?_⟩
    subst hsize hby
    have hsm : n + m ≤ 9223372036854775807 := by simp only [maxLen] at h63; omega
    rcases hown.2 with ⟨rfl, rfl⟩ | ⟨g, cap, cur, rfl, hbg, hgh, hnc, hcm, hcs, htake⟩
    · by_cases hm : m = 0
      · rw [hnn.2 ⟨rfl, hm⟩]
        intro k h
        cases h
      · have hr := run_append_nil (P := P) w t ty e i z ht hi hz a m c news hl hnews' (by omega) (by omega) (by have hb := hbytes; rw [Nat.zero_add] at hb; omega)
        rw [hr] at hrun
        cases hrun
        intro k h
        simp only [Value.ownBlock, Option.some.injEq] at h
        exact .inr (by omega)
    · by_cases hroom : n + m ≤ cap
      · have hfit : n * i.size + news.length ≤ cur.size := by rw [hl, hcs, ← Nat.add_mul]; exact Nat.mul_le_mul_right _ hroom
        have hr := run_append_room (P := P) w t ty e i ht hi g n cap cur hgh a m c news hl hnews' h1 hroom hfit
        rw [hr] at hrun
        cases hrun
        exact fun k h => .inl h
      · have holds : ∀ j u, xs[j]? = some u → w.cell? ((⟨g, 0, none⟩ : Addr).add j) = some u := hown.cells (g := g) rfl
        have hr := run_append_grow (P := P) w t ty e i z ht hi hz ⟨g, 0, none⟩ n cap xs hown.1 holds a m c news hl hnews' (by omega) (by omega) (growslice_fits (by omega) hbytes)
        rw [hr] at hrun
        cases hrun
        intro k h
        simp only [Value.ownBlock, Option.some.injEq] at h
        exact .inr (by omega)
theorem wpList_append_onto {P : Program} (w : World) {ops : Array Oper} {rest : List Oper} {o : Oper} {ac : Act} {Q : Exit → Act → World → Prop}
    (hgd : o.guard = none) (s x : Operand) (t : TypeId) (hop : o.op = Op.call { callee := Callee.builtin Builtin.append, args := #[s, x], argTypes := #[t, t] })
    (base : Nat) (e : TypeId) (i : TypeInfo) (z : Value) (size bytes : Nat) (ht : P.underlying t = some (.slice e)) (hi : P.info? e = some i) (hz : i.zero = some z)
    (hsize : i.size = size) (hby : i.bytes = bytes) (hzs : z.cells.size = size) (hsz : 0 < size)
    (v : Value) (n : Nat) (xs : List Value) (hs : ac.eval s = v) (hown : w.ownsRow base e size v n xs) (A : Option Addr) (m c : Nat) (news : List Value) (hx : ac.eval x = .slice A m c) (hl : news.length = m * size)
    (hnews : ∀ a, A = some a → ∀ j u, news[j]? = some u → w.cell? (a.add j) = some u) (hnone : A = none → m = 0 ∧ c = 0) (h1 : ∀ u ∈ news, u.oneCell' = true)
    (h63 : n + m ≤ maxLen) (hbytes : (n + m) * bytes ≤ 140737488355328) (hbase : base ≤ w.heap.size)
    (hK : ∀ v' w', w'.ownsRow base e size v' (n + m) (xs ++ news) → w.grownBy w' v.ownBlock → (∀ k, v'.ownBlock = some k → v.ownBlock = some k ∨ w.heap.size ≤ k) → wpList P ops Q rest (ac.put o.dst v') w') :
    wpList P ops Q (o :: rest) ac w := by
  obtain ⟨v', w', hrun, r1, r2, r3⟩ := run_append_onto (P := P) w base t o.type e i z size bytes ht hi hz hsize hby hzs hsz v n xs hown A m c news hl hnews hnone h1 h63 hbytes hbase
  refine wpList_plain hgd fun K hK' => ?_
  unfold Oper.wp execOp
  simp only [hop, resolve, invoke, builtin, Sem.run_bind, Sem.run_pure, Result.andThen_ok, List.map_toArray, List.map_cons, List.map_nil, hs, hx, hrun]
  exact hK' _ _ (hK v' w' r1 r2 r3)
theorem setRow_grown (w : World) (g : Nat) (cs : Array Value) : w.grownBy (w.setRow g cs) (some g) :=
  ⟨rfl, rfl, rfl, by simp [World.setRow], fun k _ hk => setRow_other w g k _ (fun e => hk (by rw [e]))⟩
/-- A store of a whole value into a whole block. -/
theorem wpList_store_whole {P : Program} {ops : Array Oper} {rest : List Oper} {o : Oper} {a : Act} {w : World} {Q : Exit → Act → World → Prop} (hgd : o.guard = none) (ty : TypeId) (x y : Operand) (ho : o.op = .store ty x y)
    (g : Nat) (cells : Array Value) (hx : a.eval x = .pointer (some ⟨g, 0, none⟩)) (hy : a.eval y = .agg cells)
    (t : TypeId) (old : Array Value) (hg : Blk w g old t) (hi : (P.info? ty).map (·.size) = some cells.size)
    (hold : old.size = cells.size) (h1 : cells.all (·.oneCell') = true)
    (h : ∀ w', Blk w' g cells t → w.grownBy w' (some g) → wpList P ops Q rest (a.put o.dst undef) w') : wpList P ops Q (o :: rest) a w :=
  wpList_store_row hgd ty x y ho g cells hx hy t old hg hi hold h1 (h _ hg.setRow (setRow_grown w g cells))
/-- A store of one cell into a whole block. -/
theorem wpList_store_blk {P : Program} {ops : Array Oper} {rest : List Oper} {o : Oper} {a : Act} {w : World} {Q : Exit → Act → World → Prop} (hgd : o.guard = none) (ty : TypeId) (x y : Operand) (ho : o.op = .store ty x y)
    (g j : Nat) (v : Value) (hx : a.eval x = .pointer (some ⟨g, j, none⟩)) (hy : a.eval y = v) (h1 : v.oneCell' = true)
    (t : TypeId) (old : Array Value) (hg : Blk w g old t) (hj : j < old.size) (hi : (P.info? ty).map (·.size) = some 1) (cells : Array Value) (hc : cells = (old.toList.take j ++ [v] ++ old.toList.drop (j + 1)).toArray)
    (h : ∀ w', Blk w' g cells t → w.grownBy w' (some g) → wpList P ops Q rest (a.put o.dst undef) w') : wpList P ops Q (o :: rest) a w := by
  subst hc
  have hst := run_storeCells_at P g j t [v] 0 old w hg (by simp; omega) (fun u hu => by simp at hu; subst hu; exact h1)
  have hcv : v.cells = #[v] := by cases v <;> first | rfl | cases h1
  refine wpList_plain hgd fun K hK => ?_
  unfold Oper.wp execOp
  cases hq : P.info? ty with
  | none => simp [hq] at hi
  | some i =>
    have hs : i.size = 1 := by simpa [hq] using hi
    simp only [Nat.add_zero, List.length_cons, List.length_nil, Nat.zero_add] at hst
    have hsv : (storeVar ty ⟨g, j, none⟩ v).run P w = .ok () (w.setRow g (old.toList.take j ++ [v] ++ old.toList.drop (j + 1)).toArray) := by
      simp [storeVar, sizeOf, typeInfo, hq, hcv, hs, hst]
    simp only [ho, hx, hy, Instr.storeAt, Instr.sureAddr, Sem.run_bind, Sem.run_pure, Result.andThen_ok, hsv]
    exact hK _ _ (h _ hg.setRow (setRow_grown w g _))
theorem own_below {w w' : World} {base e size n : Nat} {v : Value} {xs : List Value} (h : w.ownsRow base e size v n xs) (hb : Below w.heap.size w w') : w'.ownsRow base e size v n xs := by
  refine ⟨h.1, ?_⟩
  rcases h.2 with hn | ⟨g, cap, cur, rfl, hbg, hgg, rest⟩
  · exact .inl hn
  · exact .inr ⟨g, cap, cur, rfl, hbg, (hb.block g (Array.getElem?_eq_some_iff.1 hgg).1).trans hgg, rest⟩
theorem own_lower {w : World} {base base' e size n : Nat} {v : Value} {xs : List Value} (h : w.ownsRow base e size v n xs) (hb : base' ≤ base) : w.ownsRow base' e size v n xs := by
  refine ⟨h.1, ?_⟩
  rcases h.2 with hn | ⟨g, cap, cur, rfl, hbg, rest⟩
  · exact .inl hn
  · exact .inr ⟨g, cap, cur, rfl, Nat.le_trans hb hbg, rest⟩
theorem grown_below {B : Nat} {w0 w w' : World} {row : Option Nat} (h : Below B w0 w) (hB : B ≤ w.heap.size) (hg : w.grownBy w' row) (hr : ∀ k, row = some k → B ≤ k) : Below B w0 w' :=
  ⟨hg.os.trans h.os, hg.tape.trans h.tape, hg.output.trans h.output, Nat.le_trans h.size hg.size, fun k hk => (hg.block k (Nat.lt_of_lt_of_le hk hB) (fun e => by have := hr k e.symm; omega)).trans (h.block k hk)⟩
theorem Blk.grown {w w' : World} {b : Nat} {vs : Array Value} {T : TypeId} {row : Option Nat} (h : Blk w b vs T) (hg : w.grownBy w' row) (hne : some b ≠ row) : Blk w' b vs T := (hg.block b h.lt hne).trans h
theorem own_lies1 {w : World} {base e n c : Nat} {A : Option Addr} {xs : List Value} (h : w.ownsRow base e 1 (.slice A n c) n xs) : Lies w A xs := by
  intro h0
  have hl := h.1
  rcases h.2 with ⟨h1, h2⟩ | ⟨g, cap, cur, h1, hbg, hgg, rest⟩
  · subst h2; rw [hl] at h0; simp at h0
  · simp only [Value.slice.injEq] at h1
    obtain ⟨rfl, _, rfl⟩ := h1
    refine ⟨g, 0, rfl, (Array.getElem?_eq_some_iff.1 hgg).1, fun i hi => ?_⟩
    have := h.cells (g := g) rfl i xs[i] (List.getElem?_eq_getElem hi)
    rw [Addr.add_lit] at this
    rw [this, List.getElem?_eq_getElem hi]
end Go.Proofs.YtjelgmdjmjnnfaaGreat
namespace Go.Proofs.YtjelgmdjmjnnfaaGreat
open Go Go.RowKit Go.Maps
def lws : List (Int × Int) := [(12, 151), (11, 151), (10, 151), (9, 154), (8, 151), (7, 155), (6, 154), (5, 153), (4, 152), (3, 152), (2, 152), (1, 151)]
theorem insL {w : World} {b n : Nat} {D : DataW Unit} (hown : w.ownsMap Tryz.prog 31 fnElem b n D) (x : Int) (f : Nat) (hx : 0 ≤ x ∧ x < 256) (hn : n < 100) :
    ∃ w', (Instr.mapUpdate 78 (.map (some b)) (.int .i64 x) (.func (.func f) #[] #[])).run Tryz.prog w = .ok () w' ∧ w'.ownsMap Tryz.prog 31 fnElem b (n + 1) (D.put (lk x) (ld f)) ∧ w.grownBy w' (some b) :=
  hown.update Tryz.law26 Tryz.underlying78 (by unfold maxLen; omega) (keyOf_int_mk Tryz.underlying31 (lk_wf (by omega))) rfl
/-- The map of the laws. -/
def Laws (w : World) (b : Nat) : Prop := w.ownsMap Tryz.prog 31 fnElem b 12 (Dr lws)
theorem Laws.below {w w' : World} {b : Nat} (h : Laws w b) (hb : Below w.heap.size w w') : Laws w' b := by
  obtain ⟨es, clock, h1, F, h2, h3⟩ := h
  exact ⟨es, clock, (hb.block b (Array.getElem?_eq_some_iff.1 h1).1).trans h1, F, h2, h3⟩
theorem Laws.lt {w : World} {b : Nat} (h : Laws w b) : b < w.heap.size := World.ownsMap.lt h
theorem Laws.kept {w w' : World} {b : Nat} (h : Laws w b) (hb : w'.heap[b]? = w.heap[b]?) : Laws w' b := by
  obtain ⟨es, clock, h1, F, h2, h3⟩ := h
  exact ⟨es, clock, hb.trans h1, F, h2, h3⟩
set_option maxRecDepth 100000 in
set_option maxHeartbeats 1000000 in
theorem laws_any (w : World) : Calls Tryz.prog 113 #[] w fun e w' => e = .returned (.map (some w.heap.size)) ∧ Laws w' w.heap.size ∧ Below w.heap.size w w' := by
  have hmm := @run_makeMap Tryz.prog
  have m0 : (w.alloc (.map #[] 0)).ownsMap Tryz.prog 31 fnElem w.heap.size 0 (.map []) := World.ownsMap_made w Tryz.prog 31 _
  have b0 : Below w.heap.size w (w.alloc (.map #[] 0)) := B1 _ _
  obtain ⟨w1, r1, m1, g1⟩ := insL m0 1 151 (by omega) (by omega)
  have b1 := below_map b0 g1 (Nat.le_refl _)
  obtain ⟨w2, r2, m2, g2⟩ := insL m1 2 152 (by omega) (by omega)
  have b2 := below_map b1 g2 (Nat.le_refl _)
  obtain ⟨w3, r3, m3, g3⟩ := insL m2 3 152 (by omega) (by omega)
  have b3 := below_map b2 g3 (Nat.le_refl _)
  obtain ⟨w4, r4, m4, g4⟩ := insL m3 4 152 (by omega) (by omega)
  have b4 := below_map b3 g4 (Nat.le_refl _)
  obtain ⟨w5, r5, m5, g5⟩ := insL m4 5 153 (by omega) (by omega)
  have b5 := below_map b4 g5 (Nat.le_refl _)
  obtain ⟨w6, r6, m6, g6⟩ := insL m5 6 154 (by omega) (by omega)
  have b6 := below_map b5 g6 (Nat.le_refl _)
  obtain ⟨w7, r7, m7, g7⟩ := insL m6 7 155 (by omega) (by omega)
  have b7 := below_map b6 g7 (Nat.le_refl _)
  obtain ⟨w8, r8, m8, g8⟩ := insL m7 8 151 (by omega) (by omega)
  have b8 := below_map b7 g8 (Nat.le_refl _)
  obtain ⟨w9, r9, m9, g9⟩ := insL m8 9 154 (by omega) (by omega)
  have b9 := below_map b8 g9 (Nat.le_refl _)
  obtain ⟨w10, r10, m10, g10⟩ := insL m9 10 151 (by omega) (by omega)
  have b10 := below_map b9 g10 (Nat.le_refl _)
  obtain ⟨w11, r11, m11, g11⟩ := insL m10 11 151 (by omega) (by omega)
  have b11 := below_map b10 g11 (Nat.le_refl _)
  obtain ⟨w12, r12, m12, g12⟩ := insL m11 12 151 (by omega) (by omega)
  have b12 := below_map b11 g12 (Nat.le_refl _)
  have M : RowKit.Hid (Laws w12 w.heap.size) := Lib.hid m12
  have B := Lib.hid b12
  clear m0 m1 m2 m3 m4 m5 m6 m7 m8 m9 m10 m11 m12 g1 g2 g3 g4 g5 g6 g7 g8 g9 g10 g11 g12 b0 b1 b2 b3 b4 b5 b6 b7 b8 b9 b10 b11 b12
  go_enter Tryz.func113, Tryz.ntmps113
  go_wp2_with fail
  go_ret
  exact ⟨rfl, M.out, B.out⟩
/-- What is looked up. -/
theorem lookL {w : World} {b : Nat} (h : Laws w b) (c : Int) (hc : -9223372036854775808 ≤ c ∧ c < 9223372036854775808) (n : Nat) (hf : find c lws = some (n : Int)) :
    (Instr.lookup 78 (.map (some b)) (.int .i64 c) false).run Tryz.prog w = .ok (.func (.func n) #[] #[]) w := by
  obtain ⟨v, ps, hrun, hv⟩ := World.ownsMap.lookup h Tryz.law26 Tryz.underlying78 (z := .nilFunc) (by kernel_rfl) (zd := ld 0) (zp := []) rfl (keyOf_int_mk Tryz.underlying31 (lk_wf (c := c) hc))
  rw [Dr_at] at hv
  rw [hf] at hv
  have hge : 57 ≤ (n : Int) := by
    have := find_mem c n lws hf
    simp [lws] at this
    omega
  rcases fnElem_inv hv with ⟨n', rfl, e⟩ | e
  · obtain rfl : n = n' := by omega
    exact hrun
  · omega
end Go.Proofs.YtjelgmdjmjnnfaaGreat

/- The nodes at a node's own place, collected. -/
import Derived.Test.YtlbjmkljmhfjdaaGreatD2
import Derived.OwnWalkIn
import Derived.Test.YtlbjmkljmhfjdaaGreatB7
import Derived.ArgAppend
import Derived.Deep.CutRange
set_option linter.unusedSimpArgs false
set_option linter.unusedVariables false
namespace Go.Proofs.YtlbjmkljmhfjdaaGreat
open Go Go.RowKit Go.Maps Go.Shelf
attribute [local go_sem] Oper.semAt_some
/-- What is collected so far. -/
structure Col (w A : World) (sb : Nat) (L : List Int) (k : Nat) (v : Value) : Prop where
  box : Blk A sb #[v] 38
  own : A.ownsRow w.heap.size 3 1 v k (ints (L.take k))
  nil : v = .slice none 0 0 ↔ k = 0
  low : Below w.heap.size w A
theorem Col.fair {w : World} {sb B : Nat} {L : List Int} (hB : w.heap.size ≤ B) :
    Fair B (fun k A => ∃ v, Col w A sb L k v) (fun j A => j = sb ∨ ∃ v, A.cell? ⟨sb, 0, none⟩ = some v ∧ v.ownBlock = some j) := by
  constructor
  · rintro k A A' ⟨v, h⟩ hb
    exact ⟨v, h.box.below' hb, own_below h.own hb, h.nil, h.low.trans (hb.mono h.low.size)⟩
  · rintro k d A o hd ⟨v, h⟩ hn
    exact ⟨v, blk_putX h.box hn o, own_putX h.own hn o, h.nil, h.low.trans (below_putObj A d _ o (by omega))⟩
  · rintro k A A' j ⟨v, h⟩ hb hc
    rcases hc with hc | ⟨u, h1, h2⟩
    · exact .inl hc
    · refine .inr ⟨u, ?_, h2⟩
      rw [(h.box.below' hb).cell 0] at h1
      rw [h.box.cell 0]; exact h1
  · rintro k d A o j _ ⟨v, h⟩ hn hc
    rcases hc with hc | ⟨u, h1, h2⟩
    · exact .inl hc
    · refine .inr ⟨u, ?_, h2⟩
      rw [(blk_putX h.box hn o).cell 0] at h1
      rw [h.box.cell 0]; exact h1
  · rintro k A j ⟨v, h⟩ hc
    rcases hc with rfl | ⟨u, h1, h2⟩
    · exact ⟨_, _, _, h.box⟩
    · rw [h.box.cell 0] at h1
      obtain rfl : v = u := by simpa using h1
      rcases h.own.2 with ⟨rfl, _⟩ | ⟨g, cap, cur, rfl, _, hg, _⟩
      · simp [Value.ownBlock] at h2
      · simp only [Value.ownBlock, Option.some.injEq] at h2
        subst h2
        exact ⟨_, _, _, hg⟩
theorem wpListIn_append_onto {F : Fence} {nn : Nat} {P : Program} (w : World) {ops : Array Oper} {rest : List Oper} {o : Oper} {ac : Act} {Q : Exit → Act → World → Prop}
    (hgd : o.guard = none) (s x : Operand) (t : TypeId) (hop : o.op = Op.call { callee := Callee.builtin Builtin.append, args := #[s, x], argTypes := #[t, t] })
    (base : Nat) (e : TypeId) (i : TypeInfo) (z : Value) (size bytes : Nat) (ht : P.underlying t = some (.slice e)) (hi : P.info? e = some i) (hz : i.zero = some z)
    (hsize : i.size = size) (hby : i.bytes = bytes) (hzs : z.cells.size = size) (hsz : 0 < size)
    (v : Value) (n : Nat) (xs : List Value) (hs : ac.eval s = v) (hown : w.ownsRow base e size v n xs) (A : Option Addr) (m c : Nat) (news : List Value) (hx : ac.eval x = .slice A m c) (hl : news.length = m * size)
    (hnews : ∀ a, A = some a → ∀ j u, news[j]? = some u → w.cell? (a.add j) = some u) (hnone : A = none → m = 0 ∧ c = 0) (h1 : ∀ u ∈ news, u.oneCell' = true)
    (h63 : n + m ≤ maxLen) (hbytes : (n + m) * bytes ≤ 140737488355328) (hbase : base ≤ w.heap.size)
    (hK : ∀ v' w', w'.ownsRow base e size v' (n + m) (xs ++ news) → w.grownBy w' v.ownBlock → (∀ k, v'.ownBlock = some k → v.ownBlock = some k ∨ w.heap.size ≤ k) → wpListIn F nn P ops Q rest (ac.put o.dst v') w') :
    wpListIn F nn P ops Q (o :: rest) ac w := by
  obtain ⟨v', w', hrun, r1, r2, r3⟩ := run_append_onto (P := P) w base t o.type e i z size bytes ht hi hz hsize hby hzs hsz v n xs hown A m c news hl hnews hnone h1 h63 hbytes hbase
  refine wpListIn_plain hgd fun K hK' => ?_
  unfold Oper.wpIn
  refine ⟨?_, ?_⟩
  · simp [Oper.about, hop, resolve, Target.leads, Sem.run_pure]
  · rw [Oper.semAt_plain F _ _ (by rw [hop]; intro c hc'; cases hc')]
    simp [execOp, hop, resolve, invoke, builtin, hs, hx, hrun, Result.andThen]
    exact hK' _ _ (hK v' w' r1 r2 r3)
set_option maxRecDepth 100000 in
set_option maxHeartbeats 4000000 in
theorem appendSeq_any (f : FuncId) (lb : Array Value) (L : List Int) (hL : L.length ≤ 100000) (T : Nat → Prop) (w : World) (hT : ∀ j, T j → j < w.heap.size) (eg : ∀ args w, (callFunc f args).run Tryz.prog w = .ok (.enter f args) w)
    (hS : SeqX 12 Tryz.prog f lb (encI L) L.length T w) :
    Calls Tryz.prog 151 #[.slice none 0 0, .func (.func f) #[] lb] w fun e w' => (∃ v, e = .returned v ∧ w'.ownsRow w.heap.size 3 1 v L.length (ints L) ∧ (v = .slice none 0 0 ↔ L = [])) ∧ Below w.heap.size w w' := by
  obtain ⟨i0, hi, hz0, hz1, hz2⟩ := info_parts Tryz.info3
  have HS := Lib.hid (seqX_any (m' := 12 - 1) hS)
  have HT := Lib.hid hT
  have HE := Lib.hid eg
  have HLL := Lib.hid hL
  clear hS hT eg
  refine (callsIn_wide (n := 12)).1 ?_
  refine callsIn_of_wp_marks Tryz.func151 rfl trivial ?_ rfl
  simp only [Tryz.ntmps151, List.size_toArray, List.length_cons, List.length_nil, Nat.reduceAdd, Nat.reduceSub, Array.replicate_succ, Array.replicate_zero, List.push_toArray, List.append_toArray, List.nil_append, List.cons_append]
  gi_wp2_with fail
  obtain ⟨sb, esb⟩ : ∃ u, u = w.heap.size := ⟨_, rfl⟩
  obtain ⟨w1, ew1⟩ : ∃ u, u = w.alloc (.cells #[.slice none 0 0] 38) := ⟨_, rfl⟩
  have hb1 : Below w.heap.size w w1 := by rw [ew1]; exact B1 _ _
  have hz1' : w1.heap.size = sb + 1 := by rw [ew1, esb]; simp
  have I0 : RowKit.Hid (∃ v, Col w w1 sb L 0 v) := Lib.hid ⟨.slice none 0 0, by rw [ew1, esb]; exact Blk.new _ _ _, by show w1.ownsRow _ _ _ _ 0 (ints []); exact World.ownsRow_nil w1 w.heap.size 3 1, by simp, hb1⟩
  have C0 : w1.cell? ⟨sb, 0, none⟩ = some (.slice none 0 0) := by rw [ew1, esb]; exact (Blk.new w _ _).cell 0
  have ESB := Lib.hid esb
  have HB1 := Lib.hid hb1
  have HZ1 := Lib.hid hz1'
  rw [← ew1, ← esb]
  clear ew1 hb1 hz1' esb
  refine wpIn_rangeFunc_own (by decide) (gf := f) (lb := lb) rfl HE.out HS.out HB1.out (fun _ => rfl)
    (fun k A => ∃ v, Col w A sb L k v) (fun j A => j = sb ∨ ∃ v, A.cell? ⟨sb, 0, none⟩ = some v ∧ v.ownBlock = some j) (Col.fair HB1.out.size) (fun j hj hc => ?tt) I0.out
    (fun k => { tmps := #[.slice none 0 0, .func (.func f) #[] lb, .pointer (some ⟨sb, 0, none⟩), undef, .slice none 0 0, .int .i64 (L.getD k 0), .func (.func f) #[] lb, .int .i64 (L.getD k 0), undef, undef, undef, undef, undef], defers := [] }) ?assign ?body ?done
  case tt =>
    have := HT.out j hj
    rcases hc with rfl | ⟨v, h1, h2⟩
    · have := ESB.out; omega
    · rw [C0] at h1
      obtain rfl := Option.some.inj h1
      simp [Value.ownBlock] at h2
  case assign =>
    intro l2 k Wa K hK2
    unfold encI
    gi_wp2
    exact hK2
  case body =>
    rintro l2 k A ⟨v, h⟩ hk
    have c1 := h.box.cell 0
    have f1 := h.box.frozen 0
    have TO := Lib.hid (take_one hk)
    generalize L.getD k 0 = x at TO ⊢
    have HO := Lib.hid h
    obtain ⟨A0, c0, rfl, _, _⟩ := own_slice h.own
    clear h C0
    gi_wp2_with (gi_at_builtin; refine wpListIn_append_onto _ rfl _ _ 38 rfl w.heap.size 3 i0 (.int .i64 0) 1 8 Tryz.underlying38 hi hz0 hz1 hz2 rfl (by decide) _ _ _ rfl (own_below HO.out.own (B1 A _)) (some ⟨A.heap.size, 0, none⟩) 1 1 [.int .i64 x] rfl rfl (fun a ha => by cases ha; exact cell_one_new _ _ _) (fun h => by cases h) (by simp [Value.oneCell']) (by unfold maxLen; have := HLL.out; omega) (by have := HLL.out; omega) (by have := HO.out.low.size; simp; omega) ?_; intro v' w9 hown' hgrow hfr'; have O9 := Lib.hid hown'; have G9 := Lib.hid hgrow; have N9 := Lib.hid hfr'; have b9 : Blk w9 sb #[.slice A0 k c0] 38 := ((HO.out.box.alloc _).grown hgrow (fun e => own_ne HO.out.own HO.out.box (by decide) e.symm)); have c9 := b9.cell 0; have f9 := b9.frozen 0; have K9 := Lib.hid b9; obtain ⟨A1, c1', rfl, _, _⟩ := own_slice hown'; clear hown' hgrow hfr' b9)
    have hsz9 : A.heap.size ≤ w9.heap.size := by have := G9.out.size; simp at this; omega
    have hlow9 : Below w.heap.size w w9 := grown_below (HO.out.low.trans ((B1 A _).mono HO.out.low.size)) (by have := HO.out.low.size; simp; omega) G9.out (fun j e => (HO.out.own.lt j e).1)
    have hcs : (w9.setCell ⟨sb, 0, none⟩ (.slice A1 (k + 1) c1')).cell? ⟨sb, 0, none⟩ = some (.slice A1 (k + 1) c1') := by
      have := heap_setCell_same w9 sb 0 _ _ (.slice A1 (k + 1) c1') K9.out
      exact Blk.cell (show Blk _ sb #[.slice A1 (k + 1) c1'] 38 from this) 0
    refine ⟨⟨by simpa [World.setCell] using hsz9, fun j hj hc => ?_, fun j hj hc => ?_⟩, .slice A1 (k + 1) c1', ?_, ?_, ?_, ?_⟩
    · refine (heap_setCell_other w9 ⟨sb, 0, none⟩ j _ (fun e => hc (.inl e))).trans ((G9.out.block j (by simp; omega) (fun e => hc (.inr ⟨.slice A0 k c0, HO.out.box.cell 0, e.symm⟩))).trans (Below.heap_alloc A _ j hj))
    · rcases hc with hc | ⟨u, h1, h2⟩
      · exact .inl hc
      · rw [hcs] at h1
        obtain rfl := Option.some.inj h1
        rcases N9.out j h2 with h3 | h3
        · exact .inr ⟨.slice A0 k c0, HO.out.box.cell 0, h3⟩
        · simp at h3; omega
    · exact heap_setCell_same w9 sb 0 _ _ (.slice A1 (k + 1) c1') K9.out
    · rw [TO.out]
      have e : ints (L.take k ++ [x]) = ints (L.take k) ++ [.int .i64 x] := by simp [ints]
      rw [e]
      exact own_kept O9.out (fun j hj => heap_setCell_other w9 ⟨sb, 0, none⟩ j _ (fun e => own_ne O9.out K9.out (by decide) (by rw [hj]; exact congrArg some e)))
    · obtain ⟨g, cap, e1, _⟩ := own_shape O9.out (by omega)
      rw [e1]
      simp
    · exact hlow9.setCell (p := ⟨sb, 0, none⟩) (by show w.heap.size ≤ sb; have := ESB.out; omega) _
  case done =>
    rintro _ W6 rfl ⟨v, h⟩ _ hd
    have c1 := h.box.cell 0
    have HO := Lib.hid h
    have HD := Lib.hid hd
    clear h hd C0
    gi_wp2_with fail
    show LeavesInM _ _ _ _ _ _ _ _ _
    refine leaves_one (D := w1.heap.size) HD.out (fun o => ?_)
    have hn : NoCells W6 w1.heap.size := nc_def HD.out
    have ho := own_putX HO.out.own hn o
    rw [List.take_length] at ho
    refine ⟨v, by simp [results, Tryz.f151, go_sem], ⟨v, rfl, ho, HO.out.nil.trans List.length_eq_zero_iff⟩, HO.out.low.trans (below_putObj W6 w1.heap.size _ o HB1.out.size)⟩
end Go.Proofs.YtlbjmkljmhfjdaaGreat
namespace Go.Proofs.YtlbjmkljmhfjdaaGreat
open Go Go.RowKit Go.Maps Go.Shelf
attribute [local go_sem] Oper.semAt_some
/-- A row of numbers that is told. -/
def RowI (w : World) (L : List Int) (e : Ending) (w' : World) : Prop := (∃ v, e = .returned v ∧ w'.ownsRow w.heap.size 3 1 v L.length (ints L) ∧ (v = .slice none 0 0 ↔ L = [])) ∧ Below w.heap.size w w'
theorem rowI_nil (w w' : World) (hb : Below w.heap.size w w') : RowI w [] (.returned (.slice none 0 0)) w' := ⟨⟨_, rfl, World.ownsRow_nil _ _ _ _, by simp⟩, hb⟩
theorem row_rowI {w w' : World} {L : List Nat} {e : Ending} (h : Row w L e w') : RowI w (nums L) e w' := by
  obtain ⟨⟨v, h1, h2, h3⟩, hb⟩ := h
  exact ⟨⟨v, h1, by rw [nums_len]; exact h2, h3.trans (by simp [nums])⟩, hb⟩
theorem collect_any (f : FuncId) (lb : Array Value) (L : List Int) (hL : L.length ≤ 100000) (T : Nat → Prop) (w : World) (hT : ∀ j, T j → j < w.heap.size) (eg : ∀ args w, (callFunc f args).run Tryz.prog w = .ok (.enter f args) w)
    (hS : SeqX 12 Tryz.prog f lb (encI L) L.length T w) :
    Calls Tryz.prog 101 #[.func (.func f) #[] lb] w (RowI w L) := by
  have A := Lib.hid (appendSeq_any f lb L hL T w hT eg hS)
  clear hT eg hS hL
  go_enter Tryz.func101, Tryz.ntmps101
  go_wp2_with fail
  refine A.out.mono ?_
  rintro e w1 ⟨⟨v, rfl, ho, hn⟩, hb⟩
  have HO := Lib.hid ho
  have HN := Lib.hid hn
  have HB := Lib.hid hb
  clear ho hn hb
  go_wp2_with fail
  go_ret
  exact ⟨⟨v, rfl, HO.out, HN.out⟩, HB.out⟩
noncomputable def nodesAt (g : Gr) (n : Int) : List Int := by classical exact if rightB g = true ∧ 0 ≤ n ∧ n < g.nodes.length then ownN g.nodes (mayG g) n else []
noncomputable def callsAt (g : Gr) (n : Int) : List Nat := by classical exact if rightB g = true ∧ 0 ≤ n ∧ n < g.nodes.length then callsOf g n else []
theorem own_len {g : Gr} (hR : Right g) (n : Nat) (hn : n < g.nodes.length) : (ownN g.nodes (mayG g) n).length ≤ 2048 := by
  obtain ⟨ms, hm, _⟩ := hR.pre
  have h := own_rises hm (mayG g) _ n hn (Nat.le_refl _)
  have h2 := hm n (by omega) hn
  have h3 := hR.nodes
  have key : ∀ (a : List Int) (lo hi : Int), Rises a lo hi → (a.length : Int) ≤ max 0 (hi - lo) := by
    intro a
    induction a with
    | nil => intro lo hi _; simp; omega
    | cons x a ih =>
      intro lo hi h
      have h1 := h.each x (List.mem_cons_self ..)
      have hp := List.pairwise_cons.1 h.rise
      have := ih (x + 1) hi ⟨fun k hk => by have := hp.1 k hk; have := h.each k (List.mem_cons_of_mem _ hk); omega, hp.2⟩
      simp only [List.length_cons]
      omega
  have := key _ _ _ h
  omega
set_option maxRecDepth 100000 in
set_option maxHeartbeats 2000000 in
theorem lnodes_any (g : Gr) (n : Int) (hn : -9223372036854775808 ≤ n ∧ n < 9223372036854775808) (w : World) (hg : Gr.At w g) (hin : Gr.In g) (hc : Capd g) : Calls Tryz.prog 29 #[g.val, .int .i64 n] w (RowI w (nodesAt g n)) := by
  by_cases h : rightB g = true ∧ 0 ≤ n ∧ n < g.nodes.length
  · have e : nodesAt g n = ownN g.nodes (mayG g) n := by unfold nodesAt; rw [if_pos h]
    obtain ⟨hr, h0, h1⟩ := h
    have hR := rightB_true.1 hr
    obtain ⟨k, rfl⟩ : ∃ k : Nat, n = k := ⟨n.toNat, by omega⟩
    have hk : k < g.nodes.length := by omega
    rw [e]
    have WW := Lib.hid (fun (w' : World) (b : Below w.heap.size w w') => workWith_yes g k hk hR w' (hg.below b) hin)
    have OM := Lib.hid (fun p w' => own_make p k w')
    have CO := Lib.hid (fun (w1 : World) (p nb : Nat) (hW : Wk w1 p g nb) => collect_any 152 #[.pointer (some ⟨w1.heap.size + 1, 0, none⟩), .pointer (some ⟨w1.heap.size, 0, none⟩)] (ownN g.nodes (mayG g) k) (by have := own_len hR k hk; omega) (fun j => j < ((w1.alloc (.cells #[.pointer (some ⟨p, 0, none⟩)] 79)).alloc (.cells #[.int .i64 k] 3)).heap.size) _ (fun j h => h) (enters_of Tryz.func152 (by kernel_rfl) rfl)
      (own_in g hR hc g.nodes.length k hk (by omega) ((w1.alloc (.cells #[.pointer (some ⟨p, 0, none⟩)] 79)).alloc (.cells #[.int .i64 k] 3)) p nb w1.heap.size (w1.heap.size + 1) _
        ⟨fun W' hs ha => (hW.below (B2 _ _ _)).heap hs ha, fun j h => h, by simp; omega, by simp, (Blk.new _ _ _).alloc _, by have := Blk.new (w1.alloc (.cells #[.pointer (some ⟨p, 0, none⟩)] 79)) #[.int .i64 k] 3; rw [World.size_alloc] at this; exact this⟩))
    generalize ownN g.nodes (mayG g) k = L at CO ⊢
    clear hg hin hR hr h0 h1 hk e hc hn
    show Calls Tryz.prog 29 #[.agg #[.slice g.RA g.rules.length g.rc, .slice g.NA g.nodes.length g.nc], .int .i64 k] w _
    go_enter Tryz.func29, Tryz.ntmps29
    go_wp2_with (first | (go_at_call 100; with_reducible refine (WW.out _ (B1 _ _)).mono ?_; rintro e w1 ⟨p, nb, rfl, hW, hb⟩; have H1 := Lib.hid (bb (B1 w _) hb); have HW := Lib.hid hW; clear hb hW) | (go_at_call 102; with_reducible refine (OM.out _ _).mono ?_; rintro e w2 ⟨rfl, rfl⟩))
    refine (CO.out _ _ _ HW.out).mono ?_
    rintro e w3 ⟨⟨v, rfl, ho, hn⟩, hb⟩
    have h2 := H1.out.trans ((B2 w1 (.cells #[.pointer (some ⟨p, 0, none⟩)] 79) (.cells #[.int .i64 k] 3)).mono H1.out.size)
    have HO := Lib.hid (own_lower ho h2.size)
    have HN := Lib.hid hn
    have HB := Lib.hid (h2.trans (hb.mono h2.size))
    clear ho hn hb h2 CO
    go_wp2_with fail
    go_ret
    exact ⟨⟨v, rfl, HO.out, HN.out⟩, HB.out⟩
  · have e : nodesAt g n = [] := by unfold nodesAt; rw [if_neg h]
    rw [e]
    have WW := Lib.hid (fun (w' : World) (b : Below w.heap.size w w') => workWith_no g n hn w' (hg.below b) hin h)
    clear hg hin h e hc
    show Calls Tryz.prog 29 #[.agg #[.slice g.RA g.rules.length g.rc, .slice g.NA g.nodes.length g.nc], .int .i64 n] w _
    go_enter Tryz.func29, Tryz.ntmps29
    go_wp2_with (go_at_call 100; with_reducible refine (WW.out _ (B1 _ _)).mono ?_; rintro e w1 ⟨rfl, hb⟩; have H1 := Lib.hid (bb (B1 w _) hb); clear hb)
    go_ret
    exact rowI_nil _ _ H1.out
set_option maxRecDepth 100000 in
set_option maxHeartbeats 2000000 in
theorem lcalls_any (g : Gr) (n : Int) (hn : -9223372036854775808 ≤ n ∧ n < 9223372036854775808) (w : World) (hg : Gr.At w g) (hin : Gr.In g) (hc : Capd g) : Calls Tryz.prog 30 #[g.val, .int .i64 n] w (Row w (callsAt g n)) := by
  by_cases h : rightB g = true ∧ 0 ≤ n ∧ n < g.nodes.length
  · have e : callsAt g n = callsOf g n := by unfold callsAt; rw [if_pos h]
    obtain ⟨hr, h0, h1⟩ := h
    have hR := rightB_true.1 hr
    obtain ⟨k, rfl⟩ : ∃ k : Nat, n = k := ⟨n.toNat, by omega⟩
    have hk : k < g.nodes.length := by omega
    rw [e]
    have WW := Lib.hid (fun (w' : World) (b : Below w.heap.size w w') => workWith_yes g k hk hR w' (hg.below b) hin)
    have CO := Lib.hid (fun (w1 : World) (p nb : Nat) (hW : Wk w1 p g nb) => calls_any hW hR hc k hk)
    generalize callsOf g k = L at CO ⊢
    clear hg hin hR hr h0 h1 hk e hc hn
    show Calls Tryz.prog 30 #[.agg #[.slice g.RA g.rules.length g.rc, .slice g.NA g.nodes.length g.nc], .int .i64 k] w _
    go_enter Tryz.func30, Tryz.ntmps30
    go_wp2_with (go_at_call 100; with_reducible refine (WW.out _ (B1 _ _)).mono ?_; rintro e w1 ⟨p, nb, rfl, hW, hb⟩; have H1 := Lib.hid (bb (B1 w _) hb); have HW := Lib.hid hW; clear hb hW)
    refine (CO.out _ _ _ HW.out).mono ?_
    rintro e w3 ⟨⟨v, rfl, ho, hn⟩, hb⟩
    have HO := Lib.hid (own_lower ho H1.out.size)
    have HN := Lib.hid hn
    have HB := Lib.hid (H1.out.trans (hb.mono H1.out.size))
    clear ho hn hb CO
    go_wp2_with fail
    go_ret
    exact ⟨⟨v, rfl, HO.out, HN.out⟩, HB.out⟩
  · have e : callsAt g n = [] := by unfold callsAt; rw [if_neg h]
    rw [e]
    have WW := Lib.hid (fun (w' : World) (b : Below w.heap.size w w') => workWith_no g n hn w' (hg.below b) hin h)
    clear hg hin h e hc
    show Calls Tryz.prog 30 #[.agg #[.slice g.RA g.rules.length g.rc, .slice g.NA g.nodes.length g.nc], .int .i64 n] w _
    go_enter Tryz.func30, Tryz.ntmps30
    go_wp2_with (go_at_call 100; with_reducible refine (WW.out _ (B1 _ _)).mono ?_; rintro e w1 ⟨rfl, hb⟩; have H1 := Lib.hid (bb (B1 w _) hb); clear hb)
    go_ret
    exact row_nil _ _ H1.out
set_option maxRecDepth 100000 in
set_option maxHeartbeats 2000000 in
theorem bodyCalls_any {w : World} {p nb : Nat} {g : Gr} (h : Wk w p g nb) (hR : Right g) (hc : Capd g) (i : Nat) (hi : i < g.rules.length) :
    Calls Tryz.prog 92 #[.pointer (some ⟨p, 0, none⟩), .int .i64 i] w (Row w (lcal g i)) := by
  have hb := hR.body i hi
  have c0 := h.box.cell 0
  simp only [List.getElem?_toArray, List.getElem?_cons_zero, List.getElem?_cons_succ] at c0
  obtain ⟨b1, o1, eA, _, _, d1⟩ := h.gr.rules.two hi
  rw [eA] at c0
  have CO := Lib.hid (calls_any h hR hc (g.rules.getD i Rl.zero).body.toNat (by omega))
  rw [show (((g.rules.getD i Rl.zero).body.toNat : Nat) : Int) = (g.rules.getD i Rl.zero).body by omega] at CO
  have EL : RowKit.Hid (lcal g i = callsOf g (g.rules.getD i Rl.zero).body) := Lib.hid rfl
  rw [← EL.out] at CO
  generalize lcal g i = L at CO ⊢
  generalize (g.rules.getD i Rl.zero).body = bd at CO d1
  obtain ⟨m, em⟩ : ∃ m, m = g.rules.length := ⟨_, rfl⟩
  rw [← em] at c0 hi
  have hi2 : (i : Int) < m := by omega
  clear hb h em EL
  go_enter Tryz.func92, Tryz.ntmps92
  go_wp2_with fail
  refine CO.out.mono ?_
  rintro e w3 ⟨⟨v, rfl, ho, hn⟩, hb⟩
  have HO := Lib.hid ho
  have HN := Lib.hid hn
  have HB := Lib.hid hb
  clear ho hn hb CO
  go_wp2_with fail
  go_ret
  exact ⟨⟨v, rfl, HO.out, HN.out⟩, HB.out⟩
end Go.Proofs.YtlbjmkljmhfjdaaGreat
namespace Go.Proofs.YtlbjmkljmhfjdaaGreat
open Go Go.RowKit Go.Maps Go.Shelf
theorem Tryz.info_sH : (Tryz.prog.info? 38).map (fun i => (i.zero, i.size, i.bytes)) = some (some (.slice none 0 0), 1, 24) := by kernel_rfl
/-- Rows of numbers, each of its own, in a row. -/
structure Rows2 (w W : World) (gb : Nat) (vs : List Value) (L : List (List Nat)) : Prop where
  blk : Blk W gb vs.toArray 38
  new : w.heap.size ≤ gb
  len : vs.length = L.length
  row : ∀ i, i < L.length → W.ownsRow w.heap.size 3 1 (vs.getD i undef) (L.getD i []).length (ints (nums (L.getD i [])))
  low : Below w.heap.size w W
theorem Rows2.below {w W W' : World} {gb : Nat} {vs : List Value} {L : List (List Nat)} (h : Rows2 w W gb vs L) (hb : Below W.heap.size W W') : Rows2 w W' gb vs L :=
  ⟨h.blk.below' hb, h.new, h.len, fun i hi => own_below (h.row i hi) hb, h.low.trans (hb.mono h.low.size)⟩
noncomputable def graphOf (g : Gr) : List (List Nat) := (List.range g.rules.length).map (lcal g)
theorem graphOf_len (g : Gr) : (graphOf g).length = g.rules.length := by simp [graphOf]
theorem graphOf_at {g : Gr} {i : Nat} (h : i < g.rules.length) : (graphOf g).getD i [] = lcal g i := by simp [graphOf, List.getD, h]
/-- The rows so far. -/
noncomputable def graphTo (g : Gr) (k : Nat) : List (List Nat) := (List.range g.rules.length).map fun i => if i < k then lcal g i else []
theorem graphTo_len (g : Gr) (k : Nat) : (graphTo g k).length = g.rules.length := by simp [graphTo]
theorem graphTo_at {g : Gr} {i k : Nat} (h : i < g.rules.length) : (graphTo g k).getD i [] = if i < k then lcal g i else [] := by simp [graphTo, List.getD, h]
theorem graphTo_all (g : Gr) : graphTo g g.rules.length = graphOf g := by
  unfold graphTo graphOf
  exact List.map_congr_left fun i hi => by rw [if_pos (by simpa using hi)]
theorem Rows2.step {w W W1 : World} {gb k : Nat} {vs : List Value} {g : Gr} {v : Value} (h : Rows2 w W gb vs (graphTo g k)) (hk : k < g.rules.length) (hb : Below W.heap.size W W1) (ho : W1.ownsRow W.heap.size 3 1 v (lcal g k).length (ints (nums (lcal g k)))) :
    Rows2 w (W1.setCell ⟨gb, k, none⟩ v) gb (vs.set k v) (graphTo g (k + 1)) := by
  have h1 := h.below hb
  have hl := h.len
  rw [graphTo_len] at hl
  have keep : ∀ {B n : Nat} {u : Value} {xs : List Value}, W1.ownsRow B 3 1 u n xs → (W1.setCell ⟨gb, k, none⟩ v).ownsRow B 3 1 u n xs := fun {B n u xs} ho =>
    own_kept ho (fun j hj => heap_setCell_other W1 ⟨gb, k, none⟩ j _ (fun e => own_ne ho h1.blk (by decide) (by rw [hj]; exact congrArg some e)))
  refine ⟨h1.blk.put v, h.new, by rw [List.length_set, graphTo_len]; exact hl, fun i hi => ?_, h1.low.setCell (p := ⟨gb, k, none⟩) h.new _⟩
  rw [graphTo_len] at hi
  rw [graphTo_at hi]
  by_cases e : i = k
  · subst e
    rw [if_pos (by omega)]
    have : (vs.set i v).getD i undef = v := by simp [List.getD, hl, hi]
    rw [this]
    exact keep (own_lower ho h.low.size)
  · have : (vs.set k v).getD i undef = vs.getD i undef := by simp only [List.getD]; rw [List.getElem?_set_ne (fun h => e h.symm)]
    rw [this]
    have h2 := h1.row i (by rw [graphTo_len]; exact hi)
    rw [graphTo_at hi] at h2
    have e2 : (if i < k + 1 then lcal g i else []) = if i < k then lcal g i else [] := by
      by_cases hik : i < k
      · rw [if_pos hik, if_pos (by omega)]
      · rw [if_neg hik, if_neg (by omega)]
    rw [e2]
    exact keep h2
set_option maxRecDepth 100000 in
set_option maxHeartbeats 2000000 in
theorem graph_no (g : Gr) (w : World) (hg : Gr.At w g) (hin : Gr.In g) (hr : rightB g = false) : Calls Tryz.prog 23 #[g.val] w fun e w' => e = .returned (.slice none 0 0) ∧ Below w.heap.size w w' := by
  have WW := Lib.hid (fun (w' : World) (b : Below w.heap.size w w') => lworkOf_no g w' (hg.below b) hin hr)
  clear hg hin hr
  show Calls Tryz.prog 23 #[.agg #[.slice g.RA g.rules.length g.rc, .slice g.NA g.nodes.length g.nc]] w _
  go_enter Tryz.func23, Tryz.ntmps23
  go_wp2_with (go_at_call 91; with_reducible refine (WW.out _ (B1 _ _)).mono ?_; rintro e w1 ⟨rfl, hb⟩; have H1 := Lib.hid (bb (B1 w _) hb); clear hb)
  go_ret
  exact ⟨rfl, H1.out⟩
set_option maxRecDepth 100000 in
set_option maxHeartbeats 4000000 in
theorem graph_any (g : Gr) (w : World) (hg : Gr.At w g) (hin : Gr.In g) (hc : Capd g) (hR : Right g) : Calls Tryz.prog 23 #[g.val] w fun e w' => ∃ gb vs, e = .returned (.slice (some ⟨gb, 0, none⟩) g.rules.length g.rules.length) ∧ Rows2 w w' gb vs (graphOf g) := by
  obtain ⟨i0, hi, hz0, hz1, hz2⟩ := info_parts Tryz.info_sH
  have WW := Lib.hid (fun (w' : World) (b : Below w.heap.size w w') => lworkOf_any g w' (hg.below b) hin hR)
  have BC := Lib.hid (fun (w1 : World) (p nb : Nat) (hW : Wk w1 p g nb) i hi => bodyCalls_any hW hR hc i hi)
  have h32 := hR.rules.2
  have GA := Lib.hid (graphTo_all g)
  have GZ := Lib.hid (fun i (h : i < g.rules.length) => graphTo_at (g := g) (k := 0) h)
  have GL := Lib.hid (graphTo_len g)
  clear hg hin hR hc
  show Calls Tryz.prog 23 #[.agg #[.slice g.RA g.rules.length g.rc, .slice g.NA g.nodes.length g.nc]] w _
  obtain ⟨m, em⟩ : ∃ m, m = g.rules.length := ⟨_, rfl⟩
  have EM := Lib.hid em
  rw [← em] at h32 ⊢
  have WW2 : RowKit.Hid (∀ (w' : World) (b : Below w.heap.size w w'), Calls Tryz.prog 91 #[.agg #[.slice g.RA m g.rc, .slice g.NA g.nodes.length g.nc]] w' fun e w'' => ∃ p nb, e = .returned (.tuple #[.pointer (some ⟨p, 0, none⟩), .bool true]) ∧ Wk w'' p g nb ∧ Below w'.heap.size w' w'') := Lib.hid (by rw [em]; exact WW.out)
  clear WW em
  go_enter Tryz.func23, Tryz.ntmps23
  go_upto_region 4 with (go_at_call 91; with_reducible refine (WW2.out _ (B1 _ _)).mono ?_; rintro e w1 ⟨p, nb, rfl, hW, hb⟩; have H1 := Lib.hid (bb (B1 w _) hb); have HW := Lib.hid hW; clear hb hW)
  have c0 := HW.out.box.cell 0
  simp only [List.getElem?_toArray, List.getElem?_cons_zero, List.getElem?_cons_succ] at c0
  rw [← EM.out] at c0
  have hmk : ∀ W : World, (Instr.makeSlice 31 (.int .i64 m) (.int .i64 m)).run Tryz.prog W = .ok (.slice (some ⟨W.heap.size, 0, none⟩) m m) (W.alloc (.cells (List.replicate m (Value.slice none 0 0)).toArray 38)) := fun W => by
    have hr := run_make (P := Tryz.prog) W 31 38 i0 (.slice none 0 0) Tryz.underlying31 hi hz0 .i64 .i64 (m : Nat) (m : Nat) (by omega) (by omega) (by rw [hz2]; omega) (by omega)
    have e : madeCells (Value.slice none 0 0).cells (m * 1) = (List.replicate m (Value.slice none 0 0)).toArray := by
      apply Array.ext
      · simp [madeCells]
      · intro k h1 h2
        simp [madeCells, Value.cells, Nat.mod_one]
    rw [hz1, Int.toNat_natCast, e] at hr
    exact hr
  go_wp2_with fail
  obtain ⟨gb, egb⟩ : ∃ u, u = w1.heap.size := ⟨_, rfl⟩
  have R0 : RowKit.Hid (Rows2 w (w1.alloc (.cells (Array.replicate m (Value.slice none 0 0)) 38)) gb (List.replicate m (Value.slice none 0 0)) (graphTo g 0)) := Lib.hid (by
    refine ⟨?_, by rw [egb]; exact H1.out.size, by rw [GL.out 0, List.length_replicate, EM.out], fun i hi => ?_, H1.out.trans ((B1 w1 _).mono H1.out.size)⟩
    · rw [egb, show (List.replicate m (Value.slice none 0 0)).toArray = Array.replicate m (Value.slice none 0 0) from by simp]
      exact Blk.new _ _ _
    · rw [GL.out 0] at hi
      rw [GZ.out i hi, if_neg (by omega)]
      have : (List.replicate m (Value.slice none 0 0)).getD i undef = .slice none 0 0 := by have := EM.out; simp [List.getD, show i < m by omega]
      rw [this]
      exact World.ownsRow_nil _ _ _ _)
  have EGB := Lib.hid (show w1.heap.size ≤ gb by omega)
  have hb12 := B1 w1 (.cells (Array.replicate m (Value.slice none 0 0)) 38)
  first | rw [← egb] | skip
  generalize w1.alloc (.cells (Array.replicate m (Value.slice none 0 0)) 38) = w2 at R0 hb12 ⊢
  have HB12 := Lib.hid hb12
  clear hb12 c0 hmk GZ egb
  go_loopw [23, 6] (fun i _ wr => ∃ (k : Nat) (vs : List Value), k ≤ m ∧ i = .int .i64 k ∧ Rows2 w wr gb vs (graphTo g k) ∧ Below w1.heap.size w1 wr) (fun i _ _ => m - (intOf i).toNat)
  case atStart => exact ⟨0, _, by omega, rfl, R0.out, HB12.out⟩
  case round =>
    obtain ⟨k, vs, hk, rfl, hrw, hbl⟩ := hrel
    have HRW := Lib.hid hrw
    have BL := Lib.hid hbl
    clear hrw hbl
    by_cases hlt : k < m
    · have hlt2 : (k : Int) < m := by omega
      have B0 := Lib.hid (BC.out wr p nb (HW.out.below BL.out) k (by have := EM.out; omega))
      go_wp2_with fail
      refine B0.out.mono ?_
      rintro e w5 ⟨⟨v5, rfl, ho, _⟩, hb5⟩
      have HS := Lib.hid (HRW.out.step (by have := EM.out; omega) hb5 ho)
      have h5 := HRW.out.below hb5
      have hvl : vs.length = m := by rw [h5.len, GL.out k]; exact EM.out.symm
      have c5 := h5.blk.cell k
      have f5 := h5.blk.frozen k
      obtain ⟨A6, n6, e6, _, _⟩ := own_slice (h5.row k (by rw [GL.out k]; have := EM.out; omega))
      have e7 : vs[k]? = some (vs.getD k undef) := by simp [List.getD, List.getElem?_eq_getElem (show k < vs.length by omega)]
      rw [List.getElem?_toArray, e7, e6] at c5
      generalize ((graphTo g k).getD k []).length = q6 at c5
      obtain ⟨A5, n5, rfl, _, _⟩ := own_slice ho
      have HB5 := Lib.hid (BL.out.trans (hb5.mono BL.out.size))
      generalize (lcal g k).length = q5 at HS ⊢
      clear h5 ho hb5 hvl e6 e7
      go_wp2_with fail
      go_roundw
      case rel => exact ⟨k + 1, _, by omega, by go_num, HS.out, HB5.out.setCell (p := ⟨gb, k, none⟩) EGB.out _⟩
      case measure => simp [intOf]; omega
    · obtain rfl : k = m := by omega
      have hlt2 : ¬ (k : Int) < k := by omega
      go_wp2_with fail
      go_ret
      refine ⟨gb, rfl, vs, ?_⟩
      have := HRW.out
      rw [EM.out, GA.out] at this
      exact this
end Go.Proofs.YtlbjmkljmhfjdaaGreat
namespace Go.Proofs.YtlbjmkljmhfjdaaGreat
open Go Go.RowKit Go.Maps Go.Shelf
/-- A row within a block of the call's own. -/
def Tail (w : World) (base : Nat) (v : Value) (xs : List Int) : Prop := ∃ g off cap cur, v = .slice (some ⟨g, off, none⟩) xs.length cap ∧ base ≤ g ∧ w.heap[g]? = some (.cells cur 3 (0, 0)) ∧ xs.length ≤ cap ∧ cap ≤ maxLen ∧ off + cap ≤ cur.size ∧ ∀ i, i < xs.length → cur[off + i]? = some (.int .i64 (xs.getD i 0))
theorem Tail.kept {w w' : World} {base : Nat} {v : Value} {xs : List Int} (h : Tail w base v xs) (hk : ∀ k, v.ownBlock = some k → w'.heap[k]? = w.heap[k]?) : Tail w' base v xs := by
  obtain ⟨g, off, cap, cur, rfl, h1, h2, h3⟩ := h
  exact ⟨g, off, cap, cur, rfl, h1, (hk g rfl).trans h2, h3⟩
theorem Tail.lt {w : World} {base : Nat} {v : Value} {xs : List Int} (h : Tail w base v xs) : ∀ k, v.ownBlock = some k → base ≤ k ∧ k < w.heap.size := by
  obtain ⟨g, off, cap, cur, rfl, h1, h2, h3⟩ := h
  intro k hk
  simp only [Value.ownBlock, Option.some.injEq] at hk
  subst hk
  exact ⟨h1, (Array.getElem?_eq_some_iff.1 h2).1⟩
theorem Tail.ne {w : World} {base b : Nat} {v : Value} {xs : List Int} {vs : Array Value} {T : TypeId} (h : Tail w base v xs) (hb : Blk w b vs T) (hT : T ≠ 3) : v.ownBlock ≠ some b := by
  obtain ⟨g, off, cap, cur, rfl, h1, h2, h3⟩ := h
  simp only [Value.ownBlock, ne_eq, Option.some.injEq]
  rintro rfl
  rw [show w.heap[g]? = _ from hb] at h2
  simp only [Option.some.injEq, Obj.cells.injEq] at h2
  exact hT h2.2.1
theorem Tail.one {w : World} {base b : Nat} {x : Int} (h : Blk w b #[.int .i64 x] 3) (hb : base ≤ b) : Tail w base (.slice (some ⟨b, 0, none⟩) 1 1) [x] :=
  ⟨b, 0, 1, #[.int .i64 x], rfl, hb, h, Nat.le_refl _, by unfold maxLen; omega, by simp, fun i hi => by
    obtain rfl : i = 0 := by simpa using hi
    rfl⟩
theorem Tail.app {w : World} {base : Nat} {v : Value} {xs : List Int} (h : Tail w base v xs) (hl : xs.length ≤ 1000) (x : Int) (a : Addr) (c : Nat) (hx : w.cell? a = some (.int .i64 x)) (hb : base ≤ w.heap.size) (ty : TypeId) :
    ∃ v' w', (Builtin.append_ #[38, 38] ty #[v, .slice (some a) 1 c]).run Tryz.prog w = .ok v' w' ∧ Tail w' base v' (xs ++ [x]) ∧ w.grownBy w' v.ownBlock ∧ (∀ k, v'.ownBlock = some k → v.ownBlock = some k ∨ w.heap.size ≤ k) := by
  obtain ⟨i0, hi, hz0, hz1, hz2⟩ := info_parts Tryz.info3
  obtain ⟨g, off, cap, cur, rfl, h1, h2, h3, h4, h5, h6⟩ := h
  have hnews : ∀ j u, [Value.int .i64 x][j]? = some u → w.cell? (a.add j) = some u := fun j u hj => by
    cases j with
    | zero => simp at hj; subst hj; simpa [Addr.add] using hx
    | succ j => simp at hj
  by_cases hr : xs.length + 1 ≤ cap
  · have hlt : off + xs.length < cur.size := by omega
    have hr2 := run_append_room_cells (P := Tryz.prog) w 38 ty 3 i0 Tryz.underlying38 hi g off xs.length cap a 1 c [.int .i64 x] (by rw [hz1]; rfl) hnews (by simp [Value.oneCell']) hr
      (fun j hj => by
        obtain rfl : j = 0 := by simpa using hj
        rw [hz1, Nat.mul_one, Nat.add_zero, Blk.cell h2, Array.getElem?_eq_getElem hlt]; rfl)
      (fun j _ => Blk.frozen h2 _)
    rw [hz1, Nat.mul_one] at hr2
    refine ⟨_, _, hr2, ⟨g, off, cap, cur.setIfInBounds (off + xs.length) (.int .i64 x), by simp, h1, ?_, by simpa using hr, h4, by simpa using h5, fun i hi => ?_⟩, ?_, fun k hk => .inl hk⟩
    · exact heap_setCell_same w g (off + xs.length) cur 3 (.int .i64 x) h2
    · simp only [List.length_append, List.length_singleton] at hi
      by_cases e : i = xs.length
      · subst e
        rw [Array.getElem?_setIfInBounds_self_of_lt hlt]
        simp [List.getD]
      · rw [Array.getElem?_setIfInBounds_ne (by omega), h6 i (by omega)]
        simp only [List.getD]
        rw [List.getElem?_append_left (by omega)]
    · have hbl := Below.setCell (Below.refl g w) (p := ⟨g, off + xs.length, none⟩) (Nat.le_refl _) (.int .i64 x)
      exact ⟨hbl.os, hbl.tape, hbl.output, hbl.size, fun k hk hne => Below.heap_setCell _ _ _ k (fun e => hne (by rw [show k = g from e]; rfl))⟩
  · obtain ⟨v', w', hrun, ho, hg⟩ := run_append_arg_grows (P := Tryz.prog) w 38 ty 3 i0 (.int .i64 0) 1 8 Tryz.underlying38 hi hz0 hz1 hz2 rfl (by decide) ⟨g, off, none⟩ xs.length cap (ints xs) (by rw [ints_length, Nat.mul_one])
      (fun j u hj => by
        have hjl : j < xs.length := by have := (List.getElem?_eq_some_iff.1 hj).1; rwa [ints_length] at this
        have : w.cell? ⟨g, off + j, none⟩ = some (.int .i64 (xs.getD j 0)) := by rw [Blk.cell h2]; exact h6 j hjl
        rw [Addr.add_lit, this]
        rw [ints_at hjl] at hj
        exact hj) a 1 c [.int .i64 x] rfl hnews (by omega) (by unfold maxLen; omega) (by omega)
    have hz : (Value.slice (some ⟨g, off, none⟩) xs.length cap).ownBlock = some g := rfl
    obtain ⟨g', cap', cur', e1, hbg, hgh, hnc, hcm, hcs, htake⟩ : ∃ g' cap' cur', v' = .slice (some ⟨g', 0, none⟩) (xs.length + 1) cap' ∧ w.heap.size ≤ g' ∧ w'.heap[g']? = some (.cells cur' 3 (0, 0)) ∧ xs.length + 1 ≤ cap' ∧ cap' ≤ maxLen ∧ cur'.size = cap' * 1 ∧ cur'.toList.take ((xs.length + 1) * 1) = ints xs ++ [.int .i64 x] := by
      rcases ho.2 with ⟨_, h0⟩ | ⟨g', cap', cur', e1, h7, h8, h9, h10, h11, h12⟩
      · omega
      · exact ⟨g', cap', cur', e1, h7, h8, h9, h10, h11, h12⟩
    subst e1
    refine ⟨_, _, hrun, ⟨g', 0, cap', cur', by simp, by omega, hgh, by simpa using hnc, hcm, by omega, fun i hi => ?_⟩, ⟨hg.os, hg.tape, hg.output, hg.size, fun k hk _ => hg.block k hk (by simp)⟩, fun k hk => .inr ?_⟩
    · simp only [List.length_append, List.length_singleton] at hi
      have h13 : cur'.toList[i]? = (ints xs ++ [.int .i64 x])[i]? := by rw [← htake, List.getElem?_take, if_pos (by omega)]
      rw [Nat.zero_add, ← Array.getElem?_toList, h13]
      have e : ints xs ++ [Value.int .i64 x] = ints (xs ++ [x]) := by simp [ints]
      rw [e]
      exact ints_at (by simpa using hi)
    · simp only [Value.ownBlock, Option.some.injEq] at hk
      omega
theorem wpList_append_tail {ops : Array Oper} {rest : List Oper} {o : Oper} {ac : Act} {w : World} {Q : Exit → Act → World → Prop}
    (hgd : o.guard = none) (s x : Operand) (hop : o.op = Op.call { callee := Callee.builtin Builtin.append, args := #[s, x], argTypes := #[38, 38] })
    (base : Nat) (v : Value) (xs : List Int) (hs : ac.eval s = v) (ht : Tail w base v xs) (hl : xs.length ≤ 1000) (a : Addr) (c : Nat) (k : Int) (hx : ac.eval x = .slice (some a) 1 c) (hc : w.cell? a = some (.int .i64 k)) (hbase : base ≤ w.heap.size)
    (hK : ∀ v' w', Tail w' base v' (xs ++ [k]) → w.grownBy w' v.ownBlock → (∀ k, v'.ownBlock = some k → v.ownBlock = some k ∨ w.heap.size ≤ k) → wpList Tryz.prog ops Q rest (ac.put o.dst v') w') :
    wpList Tryz.prog ops Q (o :: rest) ac w := by
  obtain ⟨v', w', hrun, r1, r2, r3⟩ := ht.app hl k a c hc hbase o.type
  refine wpList_plain hgd fun K hK' => ?_
  unfold Oper.wp execOp
  simp only [hop, resolve, invoke, builtin, Sem.run_bind, Sem.run_pure, Result.andThen_ok, List.map_toArray, List.map_cons, List.map_nil, hs, hx, hrun]
  exact hK' _ _ (hK v' w' r1 r2 r3)
end Go.Proofs.YtlbjmkljmhfjdaaGreat
namespace Go.Proofs.YtlbjmkljmhfjdaaGreat
open Go Go.RowKit Go.Maps Go.Shelf
def cellsB (s : Bf) : List Value := bls s.1 ++ ints (nums s.2.1)
theorem cellsB_met {s : Bf} (h : Sound s) {k : Nat} (hk : k < 32) : (cellsB s)[k]? = some (.bool (s.1.getD k false)) := by
  unfold cellsB
  rw [List.getElem?_append_left (by rw [bls_length, h.met]; exact hk)]
  exact bls_at (by rw [h.met]; exact hk)
theorem cellsB_ahead {s : Bf} (h : Sound s) {k : Nat} (hk : k < 32) : (cellsB s)[32 + k]? = some (.int .i64 (s.2.1.getD k 0 : Nat)) := by
  unfold cellsB
  rw [List.getElem?_append_right (by rw [bls_length, h.met]; omega), bls_length, h.met, Nat.add_sub_cancel_left, ints_at (by rw [nums_len, h.ahead]; exact hk), nums_at]
theorem cellsB_set {s : Bf} (h : Sound s) {k a : Nat} (hk : k < 32) : ((cellsB s).set k (.bool true)).set (32 + k) (.int .i64 a) = cellsB (s.1.set k true, s.2.1.set k a, s.2.2 ++ [k]) := by
  unfold cellsB
  rw [List.set_append_left _ _ (by rw [bls_length, h.met]; exact hk), bls_set, List.set_append_right _ _ (by rw [bls_length, List.length_set, h.met]; omega), bls_length, List.length_set, h.met, Nat.add_sub_cancel_left, ints_set]
  congr 1
  simp [nums, List.map_set]
/-- The search in memory. -/
structure Srch (w W : World) (b : Nat) (v : Value) (s : Bf) : Prop where
  blk : Blk W b (cellsB s).toArray 94
  sound : Sound s
  tail : Tail W w.heap.size v (nums s.2.2)
  grown : w.grownBy W (some b)
  lt : b < w.heap.size
theorem Srch.below {w W W' : World} {b : Nat} {v : Value} {s : Bf} (h : Srch w W b v s) (hb : Below W.heap.size W W') : Srch w W' b v s :=
  ⟨h.blk.below' hb, h.sound, h.tail.kept (fun k hk => hb.block k (h.tail.lt k hk).2), h.grown.trans ⟨hb.os, hb.tape, hb.output, hb.size, fun k hk _ => hb.block k hk⟩, h.lt⟩
theorem Srch.has {w W : World} {b : Nat} {v : Value} {s : Bf} (h : Srch w W b v s) {k : Nat} (hk : k < 32) : W.cell? ⟨b, k, none⟩ = some (.bool (s.1.getD k false)) := by
  rw [h.blk.cell, List.getElem?_toArray, cellsB_met h.sound hk]
theorem Srch.ahead {w W : World} {b : Nat} {v : Value} {s : Bf} (h : Srch w W b v s) {k : Nat} (hk : k < 32) : W.cell? ⟨b, 32 + k, none⟩ = some (.int .i64 (s.2.1.getD k 0 : Nat)) := by
  rw [h.blk.cell, List.getElem?_toArray, cellsB_ahead h.sound hk]
/-- One more is met. -/
theorem Srch.met_one {w W W1 W2 : World} {b : Nat} {v v' : Value} {s : Bf} {a k : Nat} (h : Srch w W b v s) (hk : k < 32) (hn : s.1.getD k false = false) (h1 : W1 = (W.setCell ⟨b, k, none⟩ (.bool true)).setCell ⟨b, 32 + k, none⟩ (.int .i64 a)) {W1' : World} (hb : Below W1.heap.size W1 W1')
    (ht : Tail W2 w.heap.size v' (nums s.2.2 ++ [(k : Int)])) (hg : W1'.grownBy W2 v.ownBlock) : Srch w W2 b v' (visit a s k) := by
  have e : visit a s k = (s.1.set k true, s.2.1.set k a, s.2.2 ++ [k]) := by unfold visit; rw [hn]; rfl
  rw [e]
  have hblk : Blk W1 b (cellsB (s.1.set k true, s.2.1.set k a, s.2.2 ++ [k])).toArray 94 := by
    rw [h1, ← cellsB_set h.sound hk]
    exact (h.blk.put _).put _
  have hs := visit_sound (a := a) (k := k) h.sound
  rw [e] at hs
  have hgr : w.grownBy W1 (some b) := by
    rw [h1]
    have g1 : ∀ (X : World) (o : Nat) (u : Value), X.grownBy (X.setCell ⟨b, o, none⟩ u) (some b) := fun X o u => by
      have hbl := Below.setCell (Below.refl b X) (p := ⟨b, o, none⟩) (Nat.le_refl _) u
      exact ⟨hbl.os, hbl.tape, hbl.output, hbl.size, fun j _ hne => Below.heap_setCell _ _ _ j (fun e => hne (by rw [show j = b from e]))⟩
    exact (h.grown.trans (g1 _ _ _)).trans (g1 _ _ _)
  have hz1 : W1.heap.size = W.heap.size := by rw [h1]; simp [World.setCell]
  have hz : w.heap.size ≤ W1.heap.size := hgr.size
  refine ⟨(hblk.below' hb).grown hg (fun e => h.tail.ne h.blk (by decide) e.symm), hs, by rw [nums_app]; exact ht, ?_, h.lt⟩
  refine ⟨hg.os.trans (hb.os.trans hgr.os), hg.tape.trans (hb.tape.trans hgr.tape), hg.output.trans (hb.output.trans hgr.output), Nat.le_trans (Nat.le_trans hz hb.size) hg.size, fun j hj hne => ?_⟩
  exact (hg.block j (Nat.lt_of_lt_of_le (Nat.lt_of_lt_of_le hj hz) hb.size) (fun e => by have := (h.tail.lt j e.symm).1; omega)).trans ((hb.block j (Nat.lt_of_lt_of_le hj hz)).trans (hgr.block j hj hne))
def isT : Option Value → Bool
  | some (.bool b) => b
  | _ => false
/-- How much is left to be done, as memory tells it. -/
def muW (b : Nat) (v : Value) (W : World) : Nat := 2 * unmet ((List.range 32).map fun j => isT (W.cell? ⟨b, j, none⟩)) + match v with
  | .slice _ n _ => n
  | _ => 0
theorem Srch.mu {w W : World} {b : Nat} {v : Value} {s : Bf} (h : Srch w W b v s) : muW b v W = muB s := by
  have e1 : ((List.range 32).map fun j => isT (W.cell? ⟨b, j, none⟩)) = s.1 := by
    apply List.ext_getElem
    · simp [h.sound.met]
    · intro i h1 h2
      have hi : i < 32 := by rw [h.sound.met] at h2; exact h2
      simp only [List.getElem_map, List.getElem_range, h.has hi, isT]
      simp [List.getD, List.getElem?_eq_getElem h2]
  obtain ⟨g, off, cap, cur, rfl, _⟩ := h.tail
  unfold muW muB
  rw [e1]
  simp [nums]
set_option maxRecDepth 100000 in
set_option maxHeartbeats 4000000 in
theorem spread_any (b i p : Nat) (c : Nat → List Nat) (hc : ∀ a k, k ∈ c a → k < 32) (M : Nat) (hM : M ≤ 32) (hcM : ∀ a k, k ∈ c a → k < M) (hcl : ∀ a, (c a).length ≤ 32) (hiM : i < M) (w : World) (hb : Blk w b (cellsB (startB i)).toArray 94)
    (hC : ∀ W, w.grownBy W (some b) → ∀ a, a < M → Calls Tryz.prog 92 #[.pointer (some ⟨p, 0, none⟩), .int .i64 a] W (Row W (c a))) :
    Calls Tryz.prog 146 #[.pointer (some ⟨b, 0, none⟩), .int .i64 i, .func (.func 92) #[.pointer (some ⟨p, 0, none⟩)] #[]] w fun e w' => (∃ v, e = .returned v) ∧ Blk w' b (cellsB (bfs c i)).toArray 94 ∧ w.grownBy w' (some b) := by
  have hc' := hc
  have HC := Lib.hid hC
  have HCM := Lib.hid hcM
  have HCC := Lib.hid hc
  have HB := Lib.hid hb
  clear hC hcM hc hb
  go_enter Tryz.func146, Tryz.ntmps146
  go_wp2_with fail
  have S0 : RowKit.Hid (Srch w (w.alloc (.cells #[.int .i64 i] 3)) b (.slice (some ⟨w.heap.size, 0, none⟩) 1 1) (startB i)) := Lib.hid
    ⟨HB.out.alloc _, start_sound i, Tail.one (Blk.new _ _ _) (Nat.le_refl _), ⟨rfl, rfl, rfl, by simp, fun k hk _ => Below.heap_alloc w _ k hk⟩, HB.out.lt⟩
  have hw1 : (w.alloc (.cells #[.int .i64 i] 3)).heap.size = w.heap.size + 1 := by simp
  generalize w.alloc (.cells #[.int .i64 i] 3) = w1 at S0 hw1 ⊢
  have NX := Lib.hid (fun n => show ∀ k ∈ (runB c n (startB i)).2.2, k < M from fun k hk => by
    have h := run_inv hc' n (start_sound i) (start_inv c i)
    rcases h.next k hk with rfl | h1
    · exact hiM
    · obtain ⟨j, hj, _⟩ := (h.to k h1).last
      exact HCM.out _ _ hj)
  have RMU := Lib.hid (fun n => Nat.le_trans (run_mu hc' n (start_sound i)) (start_mu65 i))
  clear hw1
  go_loopw [6] (fun nx wr => ∃ (n : Nat) (v : Value), nx = v ∧ Srch w wr b v (runB c n (startB i))) (fun nx wr => muW b nx wr)
  case atStart => exact ⟨0, _, rfl, S0.out⟩
  case round =>
    obtain ⟨n, v, rfl, hs⟩ := hrel
    have HN := Lib.hid (NX.out n)
    have RN := Lib.hid (run_next c n (startB i))
    have BE := Lib.hid (bfs_end hc' (i := i) (n := n))
    have MU := Lib.hid hs.mu
    have RM := Lib.hid (RMU.out n)
    generalize runB c n (startB i) = s at hs HN RN BE MU RM
    have hss := hs
    obtain ⟨g, off, cap, cur, rfl, hg1, hg2, hg3, hg4, hg5, hg6⟩ := hs.tail
    have HS := Lib.hid hss
    obtain ⟨m, a, q⟩ := s
    cases q with
    | nil =>
      have hbe := Lib.hid (BE.out rfl)
      clear hss hs hg1 hg2 hg3 hg4 hg5 hg6 BE
      go_wp2_with fail
      go_end0
      have hb := HS.out.blk
      rw [hbe.out] at hb
      exact ⟨⟨_, rfl⟩, hb, HS.out.grown⟩
    | cons x q =>
      have hx : x < M := HN.out x (List.mem_cons_self ..)
      have hgl : g < wr.heap.size := (hss.tail.lt g rfl).2
      have hln : (nums (m, a, x :: q).2.2).length = q.length + 1 := by simp [nums]
      rw [hln] at hg3 hg6 hs hss HS MU ⊢
      obtain ⟨ql, eql⟩ : ∃ ql, ql = q.length := ⟨_, rfl⟩
      rw [← eql] at hg3 hg6 hs hss HS MU ⊢
      have c1 : wr.cell? ⟨g, off, none⟩ = some (.int .i64 x) := by
        have := hg6 0 (by omega)
        rw [Blk.cell hg2]
        exact this
      have hcap : ql + 1 ≤ cap := hg3
      have hmx : cap ≤ 9223372036854775807 := by unfold maxLen at hg4; omega
      have T1 : RowKit.Hid (cap ≠ 1 → Tail wr w.heap.size (.slice (some ⟨g, off + 1, none⟩) ql (cap - 1)) (nums q)) := Lib.hid fun _ => ⟨g, off + 1, cap - 1, cur, by rw [eql]; simp [nums], hg1, hg2, by simp [nums]; omega, by omega, by omega, fun j hj => by
        have hj2 : j < q.length := by simpa [nums] using hj
        have := hg6 (j + 1) (by omega)
        rw [show off + 1 + j = off + (j + 1) by omega, this]
        simp [nums]⟩
      have T0 : RowKit.Hid (cap = 1 → Tail wr w.heap.size (.slice (some ⟨g, off, none⟩) ql 0) (nums q)) := Lib.hid fun h1 => by
        have hq0 : q = [] := List.length_eq_zero_iff.1 (by omega)
        have hl0 : ql = 0 := by omega
        subst hq0
        subst hl0
        exact ⟨g, off, 0, cur, rfl, hg1, hg2, Nat.le_refl _, by unfold maxLen; omega, by omega, fun j hj => by simp [nums] at hj⟩
      have B0 := Lib.hid (HC.out wr hss.grown x hx)
      have PC := Lib.hid (pop_cons (c := c) (s := (m, a, x :: q)) rfl)
      have EQL := Lib.hid eql
      clear hs hss hg1 hg2 hg3 hg4 hg5 hg6 hln eql
      go_upto_region 3 with fail
      go_cut [6] from 18 to 19 (fun s6 wx => wx = wr ∧ ∃ A1 c1, s6 = .slice (some A1) ql c1 ∧ Tail wr w.heap.size (.slice (some A1) ql c1) (nums q))
      case first =>
        by_cases h1 : cap = 1
        · subst h1
          obtain rfl : ql = 0 := by omega
          go_wp2_with fail
          go_meet
          exact ⟨rfl, _, _, rfl, T0.out (by first | trivial | rfl)⟩
        · go_wp2_with fail
          go_meet
          exact ⟨rfl, _, _, rfl, T1.out h1⟩
      case rest =>
      obtain ⟨rfl, A1, cp1, rfl, hT⟩ := hcut
      have HT := Lib.hid hT
      clear hT c1 hcap hmx hgl T1 T0
      go_wp2_with fail
      refine B0.out.mono ?_
      rintro e w3 ⟨⟨v3, rfl, ho, _⟩, hb3⟩
      obtain ⟨A3, n3, rfl, _, _⟩ := own_slice ho
      have S3 := Lib.hid (show Srch w w3 b (.slice (some A1) ql cp1) (m, a, q) from
        ⟨HS.out.blk.below' hb3, ⟨HS.out.sound.met, HS.out.sound.ahead⟩, HT.out.kept (fun k hk => hb3.block k (HT.out.lt k hk).2), (HS.out.below hb3).grown, HS.out.lt⟩)
      have O3 := Lib.hid (show w3.ownsRow w.heap.size 3 1 (.slice A3 (c x).length n3) (c x).length (ints (nums (c x))) from own_lower ho HS.out.grown.size)
      have AP := Lib.hid (show ∀ k, (Value.slice (some A1) ql cp1).ownBlock = some k → (Value.slice A3 (c x).length n3).ownBlock ≠ some k from fun k hk h2 => by
        have h3 := (HT.out.lt k hk).2
        have h4 := (ho.lt k h2).1
        omega)
      have LM := Lib.hid (fun j (hj : j < (c x).length) => show (c x).getD j 0 < M from HCM.out x _ (by simp [List.getD, List.getElem?_eq_getElem hj]))
      have LF := Lib.hid (fun j (hj : j < (c x).length) => show (c x).take (j + 1) = (c x).take j ++ [(c x).getD j 0] from by rw [List.take_add_one]; simp [List.getD, List.getElem?_eq_getElem hj])
      have VM := Lib.hid (visits (a := x) (c x) (m, a, q) ⟨HS.out.sound.met, HS.out.sound.ahead⟩ (HCC.out x))
      have VMJ := Lib.hid (fun j => visits (a := x) ((c x).take j) (m, a, q) ⟨HS.out.sound.met, HS.out.sound.ahead⟩ (fun k hk => HCC.out x k (List.mem_of_mem_take hk)))
      have hclx := hcl x
      generalize c x = L at hclx O3 AP LM LF PC VM VMJ
      obtain ⟨ll, ell⟩ : ∃ ll, ll = L.length := ⟨_, rfl⟩
      have ELL := Lib.hid ell
      have hll : ll ≤ 100000 := by
        omega
      rw [← ell]
      clear ho hb3 ell HT
      go_wp2_with fail
      go_loopw [24, 6] (fun ix nx wr => ∃ (j : Nat) (v : Value), j ≤ ll ∧ ix = .int .i64 j ∧ nx = v ∧ Srch w wr b v ((L.take j).foldl (visit x) (m, a, q)) ∧ wr.ownsRow w.heap.size 3 1 (.slice A3 ll n3) ll (ints (nums L)) ∧ (∀ k, v.ownBlock = some k → (Value.slice A3 ll n3).ownBlock ≠ some k)) (fun ix _ _ => ll - (intOf ix).toNat)
      case atStart => exact ⟨0, _, by omega, rfl, rfl, S3.out, by rw [ELL.out]; exact O3.out, by rw [ELL.out]; exact AP.out⟩
      case round =>
        obtain ⟨j, v, hj, rfl, rfl, hs, ho, hap⟩ := hrel
        by_cases hlt : j < ll
        · have hlt2 : (j : Int) < ll := by omega
          have hkM := LM.out j (by have := ELL.out; omega)
          have hTK := LF.out j (by have := ELL.out; omega)
          have hmu := (VMJ.out j).2
          have hro : wr.ownsRow w.heap.size 3 1 (.slice A3 (ints (nums L)).length n3) (ints (nums L)).length (ints (nums L)) := by rw [ints_length, nums_len, ← ELL.out]; exact ho
          obtain ⟨b2, o2, eA2, _, c2⟩ := lies_cell (own_lies hro) (k := j) (by rw [nums_len]; have := ELL.out; omega)
          rw [nums_at] at c2
          have hrm := RM.out
          generalize L.getD j 0 = k at hkM hTK c2
          have hk32 : k < 32 := by omega
          have FT : RowKit.Hid ((L.take (j + 1)).foldl (visit x) (m, a, q) = visit x ((L.take j).foldl (visit x) (m, a, q)) k) := Lib.hid (by rw [hTK, List.foldl_append]; rfl)
          generalize (L.take j).foldl (visit x) (m, a, q) = t at hs hmu FT
          have hql : t.2.2.length ≤ 100 := by simp only [muB] at hmu hrm; simp only [List.length_cons] at hrm; omega
          have HA := Lib.hid (has_any b k (t.1.getD k false) hk32 wr (hs.has hk32))
          have HS2 := Lib.hid hs
          have HO2 := Lib.hid ho
          have HP2 := Lib.hid hap
          have EA2 := Lib.hid eA2
          cases hmk : t.1.getD k false with
          | true =>
            rw [hmk] at HA
            have FT2 : RowKit.Hid ((L.take (j + 1)).foldl (visit x) (m, a, q) = t) := Lib.hid (by rw [FT.out]; unfold visit; rw [hmk]; rfl)
            clear hs ho hap hro hTK FT hmk hmu hrm
            rw [eA2]
            clear eA2
            go_wp2_with (go_at_call 95; with_reducible refine HA.out.mono ?_; rintro e w4 ⟨rfl, rfl⟩)
            go_roundw
            case rel => exact ⟨j + 1, _, by omega, by go_num, rfl, by rw [FT2.out]; exact HS2.out, by rw [← EA2.out]; exact HO2.out, by rw [← EA2.out]; exact HP2.out⟩
            case measure => simp [intOf]; omega
          | false =>
            rw [hmk] at HA
            have hN := Lib.hid hmk
            have ck := hs.has hk32
            rw [hmk] at ck
            have ca := hs.ahead hk32
            have fk := hs.blk.frozen k
            have fa := hs.blk.frozen (32 + k)
            have bk : Blk (wr.setCell ⟨b, k, none⟩ (.bool true)) b ((cellsB t).set k (.bool true)).toArray 94 := hs.blk.put _
            have ba : Blk (wr.setCell ⟨b, 32 + k, none⟩ (.int .i64 x)) b ((cellsB t).set (32 + k) (.int .i64 x)).toArray 94 := hs.blk.put _
            have ck2 : (wr.setCell ⟨b, 32 + k, none⟩ (.int .i64 x)).cell? ⟨b, k, none⟩ = some (.bool false) := by
              rw [ba.cell, List.getElem?_toArray, List.getElem?_set_ne (by omega), cellsB_met hs.sound hk32, hmk]
            have fk2 := ba.frozen k
            have ca2 : (wr.setCell ⟨b, k, none⟩ (.bool true)).cell? ⟨b, 32 + k, none⟩ = some (.int .i64 (t.2.1.getD k 0 : Nat)) := by
              rw [bk.cell, List.getElem?_toArray, List.getElem?_set_ne (by omega), cellsB_ahead hs.sound hk32]
            have fa2 := bk.frozen (32 + k)
            generalize t.2.1.getD k 0 = ak at ca ca2
            have hk32i : (k : Int) < 32 := by omega
            clear hs ho hap hro hTK hmk hmu hrm bk ba
            rw [eA2]
            clear eA2
            go_wp2_with (go_at_call 95; with_reducible refine HA.out.mono ?_; rintro e w4 ⟨rfl, rfl⟩)
            go_region
            obtain ⟨W1, eW1⟩ : ∃ u, u = (w4.setCell ⟨b, k, none⟩ (.bool true)).setCell ⟨b, 32 + k, none⟩ (.int .i64 x) := ⟨_, rfl⟩
            rw [← eW1]
            have off1 : ∀ d, d ≠ b → W1.heap[d]? = w4.heap[d]? := fun d hd => by
              rw [eW1]
              exact (heap_setCell_other _ ⟨b, 32 + k, none⟩ d _ hd).trans (heap_setCell_other _ ⟨b, k, none⟩ d _ hd)
            have hz1 : W1.heap.size = w4.heap.size := by rw [eW1]; simp [World.setCell]
            have T9 := Lib.hid (show Tail W1.drew w.heap.size u6 (nums t.2.2) from HS2.out.tail.kept (fun d hd => off1 d (fun e => HS2.out.tail.ne HS2.out.blk (by decide) (by rw [hd, e]))))
            have O9 := Lib.hid (show W1.drew.ownsRow w.heap.size 3 1 (.slice A3 ll n3) ll (ints (nums L)) from own_kept HO2.out (fun d hd => off1 d (fun e => own_ne HO2.out HS2.out.blk (by decide) (by rw [hd, e]))))
            have EW1 := Lib.hid eW1
            have HZ1 := Lib.hid (show w.heap.size ≤ W1.heap.size by rw [hz1]; exact HS2.out.grown.size)
            clear eW1 off1 hz1 ck fk fa ck2 fk2 fa2 ca ca2 c2
            go_wp2_with (at_builtin; refine wpList_append_tail rfl _ _ rfl w.heap.size _ _ rfl (T9.out.kept (fun d hd => Below.heap_alloc W1.drew _ d (T9.out.lt d hd).2)) (by rw [nums_len]; omega) ⟨W1.heap.size, 0, none⟩ 1 k rfl ((Blk.new W1.drew _ _).cell 0) (by have := HZ1.out; simp; omega) ?_; intro v' w9 ht hg hf; have HT9 := Lib.hid ht; have HG9 := Lib.hid hg; have HF9 := Lib.hid hf; clear ht hg hf)
            go_roundw
            case rel =>
              refine ⟨j + 1, _, by omega, by go_num, rfl, ?_, ?_, ?_⟩
              · rw [FT.out]
                exact HS2.out.met_one hk32 hN.out EW1.out (W1' := W1.drew.alloc (.cells #[.int .i64 k] 3)) ((bdrew1 (Below.refl _ W1)).trans (B1 W1.drew _)) HT9.out HG9.out
              · rw [← EA2.out]
                exact own_kept O9.out (fun d hd => (HG9.out.block d (by have := (O9.out.lt d hd).2; simp at this ⊢; omega) (fun e => HP2.out d e.symm hd)).trans (Below.heap_alloc W1.drew _ d (O9.out.lt d hd).2))
              · rw [← EA2.out]
                intro d hd h2
                rcases HF9.out d hd with h3 | h3
                · exact HP2.out d h3 h2
                · have := (O9.out.lt d h2).2
                  simp at this h3
                  omega
            case measure => simp [intOf]; omega
        · obtain rfl : j = ll := by omega
          have hlt2 : ¬ (j : Int) < j := by omega
          have HS2 := Lib.hid hs
          clear hs ho hap
          go_wp2_with fail
          go_roundw
          case rel =>
            refine ⟨n + 1, _, rfl, ?_⟩
            have := HS2.out
            rw [ELL.out, List.take_length] at this
            rw [RN.out, PC.out]
            exact this
          case measure =>
            have h1 := HS2.out
            rw [ELL.out, List.take_length] at h1
            rw [h1.mu, MU.out]
            have h2 := VM.out.2
            have h3 := EQL.out
            simp only [muB, List.length_cons] at h2 ⊢
            omega
end Go.Proofs.YtlbjmkljmhfjdaaGreat

/- The nodes at a node's own place, collected. -/
import Derived.Test.YtlbjmkljmhfjdaaGreatE2
import Derived.OwnWalkIn
set_option linter.unusedSimpArgs false
set_option linter.unusedVariables false
namespace Go.Proofs.YtlbjmkljmhfjdaaGreat
open Go Go.RowKit Go.Maps Go.Shelf
attribute [local go_sem] Oper.semAt_some
/-- What is collected so far. -/
structure Col (w A : World) (sb : Nat) (L : List Int) (k : Nat) (v : Value) : Prop where
  box : Blk A sb #[v] 38
  own : A.ownsRow w.heap.size 3 1 v k (ints (L.take k))
  nil : v = .slice none 0 0 ↔ k = 0
  low : Below w.heap.size w A
theorem Col.fair {w : World} {sb B : Nat} {L : List Int} (hB : w.heap.size ≤ B) :
    Fair B (fun k A => ∃ v, Col w A sb L k v) (fun j A => j = sb ∨ ∃ v, A.cell? ⟨sb, 0, none⟩ = some v ∧ v.ownBlock = some j) := by
  constructor
  · rintro k A A' ⟨v, h⟩ hb
    exact ⟨v, h.box.below' hb, own_below h.own hb, h.nil, h.low.trans (hb.mono h.low.size)⟩
  · rintro k d A o hd ⟨v, h⟩ hn
    exact ⟨v, blk_putX h.box hn o, own_putX h.own hn o, h.nil, h.low.trans (below_putObj A d _ o (by omega))⟩
  · rintro k A A' j ⟨v, h⟩ hb hc
    rcases hc with hc | ⟨u, h1, h2⟩
    · exact .inl hc
    · refine .inr ⟨u, ?_, h2⟩
      rw [(h.box.below' hb).cell 0] at h1
      rw [h.box.cell 0]; exact h1
  · rintro k d A o j _ ⟨v, h⟩ hn hc
    rcases hc with hc | ⟨u, h1, h2⟩
    · exact .inl hc
    · refine .inr ⟨u, ?_, h2⟩
      rw [(blk_putX h.box hn o).cell 0] at h1
      rw [h.box.cell 0]; exact h1
  · rintro k A j ⟨v, h⟩ hc
    rcases hc with rfl | ⟨u, h1, h2⟩
    · exact ⟨_, _, _, h.box⟩
    · rw [h.box.cell 0] at h1
      obtain rfl : v = u := by simpa using h1
      rcases h.own.2 with ⟨rfl, _⟩ | ⟨g, cap, cur, rfl, _, hg, _⟩
      · simp [Value.ownBlock] at h2
      · simp only [Value.ownBlock, Option.some.injEq] at h2
        subst h2
        exact ⟨_, _, _, hg⟩
theorem wpListIn_append_onto {F : Fence} {nn : Nat} {P : Program} (w : World) {ops : Array Oper} {rest : List Oper} {o : Oper} {ac : Act} {Q : Exit → Act → World → Prop}
    (hgd : o.guard = none) (s x : Operand) (t : TypeId) (hop : o.op = Op.call { callee := Callee.builtin Builtin.append, args := #[s, x], argTypes := #[t, t] })
    (base : Nat) (e : TypeId) (i : TypeInfo) (z : Value) (size bytes : Nat) (ht : P.underlying t = some (.slice e)) (hi : P.info? e = some i) (hz : i.zero = some z)
    (hsize : i.size = size) (hby : i.bytes = bytes) (hzs : z.cells.size = size) (hsz : 0 < size)
    (v : Value) (n : Nat) (xs : List Value) (hs : ac.eval s = v) (hown : w.ownsRow base e size v n xs) (A : Option Addr) (m c : Nat) (news : List Value) (hx : ac.eval x = .slice A m c) (hl : news.length = m * size)
    (hnews : ∀ a, A = some a → ∀ j u, news[j]? = some u → w.cell? (a.add j) = some u) (hnone : A = none → m = 0 ∧ c = 0) (h1 : ∀ u ∈ news, u.oneCell' = true)
    (h63 : n + m ≤ maxLen) (hbytes : (n + m) * bytes ≤ 140737488355328) (hbase : base ≤ w.heap.size)
    (hK : ∀ v' w', w'.ownsRow base e size v' (n + m) (xs ++ news) → w.grownBy w' v.ownBlock → (∀ k, v'.ownBlock = some k → v.ownBlock = some k ∨ w.heap.size ≤ k) → wpListIn F nn P ops Q rest (ac.put o.dst v') w') :
    wpListIn F nn P ops Q (o :: rest) ac w := by
  obtain ⟨v', w', hrun, r1, r2, r3⟩ := run_append_onto (P := P) w base t o.type e i z size bytes ht hi hz hsize hby hzs hsz v n xs hown A m c news hl hnews hnone h1 h63 hbytes hbase
  refine wpListIn_plain hgd fun K hK' => ?_
  unfold Oper.wpIn
  refine ⟨?_, ?_⟩
  · simp [Oper.about, hop, resolve, Target.leads, Sem.run_pure]
  · rw [Oper.semAt_plain F _ _ (by rw [hop]; intro c hc'; cases hc')]
    simp [execOp, hop, resolve, invoke, builtin, hs, hx, hrun, Result.andThen]
    exact hK' _ _ (hK v' w' r1 r2 r3)
set_option maxRecDepth 100000 in
set_option maxHeartbeats 4000000 in
theorem appendSeq_any (f : FuncId) (lb : Array Value) (L : List Int) (hL : L.length ≤ 100000) (T : Nat → Prop) (w : World) (hT : ∀ j, T j → j < w.heap.size) (eg : ∀ args w, (callFunc f args).run Tryz.prog w = .ok (.enter f args) w)
    (hS : SeqX 12 Tryz.prog f lb (encI L) L.length T w) :
    Calls Tryz.prog 151 #[.slice none 0 0, .func (.func f) #[] lb] w fun e w' => (∃ v, e = .returned v ∧ w'.ownsRow w.heap.size 3 1 v L.length (ints L) ∧ (v = .slice none 0 0 ↔ L = [])) ∧ Below w.heap.size w w' := by
  obtain ⟨i0, hi, hz0, hz1, hz2⟩ := info_parts Tryz.info3
  have HS := Lib.hid (seqX_any (m' := 12 - 1) hS)
  have HT := Lib.hid hT
  have HE := Lib.hid eg
  have HLL := Lib.hid hL
  clear hS hT eg
  refine (callsIn_wide (n := 12)).1 ?_
  refine callsIn_of_wp_marks Tryz.func151 rfl trivial ?_ rfl
  simp only [Tryz.ntmps151, List.size_toArray, List.length_cons, List.length_nil, Nat.reduceAdd, Nat.reduceSub, Array.replicate_succ, Array.replicate_zero, List.push_toArray, List.append_toArray, List.nil_append, List.cons_append]
  gi_wp2_with fail
  obtain ⟨sb, esb⟩ : ∃ u, u = w.heap.size := ⟨_, rfl⟩
  obtain ⟨w1, ew1⟩ : ∃ u, u = w.alloc (.cells #[.slice none 0 0] 38) := ⟨_, rfl⟩
  have hb1 : Below w.heap.size w w1 := by rw [ew1]; exact B1 _ _
  have hz1' : w1.heap.size = sb + 1 := by rw [ew1, esb]; simp
  have I0 : RowKit.Hid (∃ v, Col w w1 sb L 0 v) := Lib.hid ⟨.slice none 0 0, by rw [ew1, esb]; exact Blk.new _ _ _, by show w1.ownsRow _ _ _ _ 0 (ints []); exact World.ownsRow_nil w1 w.heap.size 3 1, by simp, hb1⟩
  have C0 : w1.cell? ⟨sb, 0, none⟩ = some (.slice none 0 0) := by rw [ew1, esb]; exact (Blk.new w _ _).cell 0
  have ESB := Lib.hid esb
  have HB1 := Lib.hid hb1
  have HZ1 := Lib.hid hz1'
  rw [← ew1, ← esb]
  clear ew1 hb1 hz1' esb
  refine wpIn_rangeFunc_own (by decide) (gf := f) (lb := lb) rfl HE.out HS.out HB1.out (fun _ => rfl)
    (fun k A => ∃ v, Col w A sb L k v) (fun j A => j = sb ∨ ∃ v, A.cell? ⟨sb, 0, none⟩ = some v ∧ v.ownBlock = some j) (Col.fair HB1.out.size) (fun j hj hc => ?tt) I0.out
    (fun k => { tmps := #[.slice none 0 0, .func (.func f) #[] lb, .pointer (some ⟨sb, 0, none⟩), undef, .slice none 0 0, .int .i64 (L.getD k 0), .func (.func f) #[] lb, .int .i64 (L.getD k 0), undef, undef, undef, undef, undef], defers := [] }) ?assign ?body ?done
  case tt =>
    have := HT.out j hj
    rcases hc with rfl | ⟨v, h1, h2⟩
    · have := ESB.out; omega
    · rw [C0] at h1
      obtain rfl := Option.some.inj h1
      simp [Value.ownBlock] at h2
  case assign =>
    intro l2 k Wa K hK2
    unfold encI
    gi_wp2
    exact hK2
  case body =>
    rintro l2 k A ⟨v, h⟩ hk
    have c1 := h.box.cell 0
    have f1 := h.box.frozen 0
    have TO := Lib.hid (take_one hk)
    generalize L.getD k 0 = x at TO ⊢
    have HO := Lib.hid h
    obtain ⟨A0, c0, rfl, _, _⟩ := own_slice h.own
    clear h C0
    gi_wp2_with (gi_at_builtin; refine wpListIn_append_onto _ rfl _ _ 38 rfl w.heap.size 3 i0 (.int .i64 0) 1 8 Tryz.underlying38 hi hz0 hz1 hz2 rfl (by decide) _ _ _ rfl (own_below HO.out.own (B1 A _)) (some ⟨A.heap.size, 0, none⟩) 1 1 [.int .i64 x] rfl rfl (fun a ha => by cases ha; exact cell_one_new _ _ _) (fun h => by cases h) (by simp [Value.oneCell']) (by unfold maxLen; have := HLL.out; omega) (by have := HLL.out; omega) (by have := HO.out.low.size; simp; omega) ?_; intro v' w9 hown' hgrow hfr'; have O9 := Lib.hid hown'; have G9 := Lib.hid hgrow; have N9 := Lib.hid hfr'; have b9 : Blk w9 sb #[.slice A0 k c0] 38 := ((HO.out.box.alloc _).grown hgrow (fun e => own_ne HO.out.own HO.out.box (by decide) e.symm)); have c9 := b9.cell 0; have f9 := b9.frozen 0; have K9 := Lib.hid b9; obtain ⟨A1, c1', rfl, _, _⟩ := own_slice hown'; clear hown' hgrow hfr' b9)
    have hsz9 : A.heap.size ≤ w9.heap.size := by have := G9.out.size; simp at this; omega
    have hlow9 : Below w.heap.size w w9 := grown_below (HO.out.low.trans ((B1 A _).mono HO.out.low.size)) (by have := HO.out.low.size; simp; omega) G9.out (fun j e => (HO.out.own.lt j e).1)
    have hcs : (w9.setCell ⟨sb, 0, none⟩ (.slice A1 (k + 1) c1')).cell? ⟨sb, 0, none⟩ = some (.slice A1 (k + 1) c1') := by
      have := heap_setCell_same w9 sb 0 _ _ (.slice A1 (k + 1) c1') K9.out
      exact Blk.cell (show Blk _ sb #[.slice A1 (k + 1) c1'] 38 from this) 0
    refine ⟨⟨by simpa [World.setCell] using hsz9, fun j hj hc => ?_, fun j hj hc => ?_⟩, .slice A1 (k + 1) c1', ?_, ?_, ?_, ?_⟩
    · refine (heap_setCell_other w9 ⟨sb, 0, none⟩ j _ (fun e => hc (.inl e))).trans ((G9.out.block j (by simp; omega) (fun e => hc (.inr ⟨.slice A0 k c0, HO.out.box.cell 0, e.symm⟩))).trans (Below.heap_alloc A _ j hj))
    · rcases hc with hc | ⟨u, h1, h2⟩
      · exact .inl hc
      · rw [hcs] at h1
        obtain rfl := Option.some.inj h1
        rcases N9.out j h2 with h3 | h3
        · exact .inr ⟨.slice A0 k c0, HO.out.box.cell 0, h3⟩
        · simp at h3; omega
    · exact heap_setCell_same w9 sb 0 _ _ (.slice A1 (k + 1) c1') K9.out
    · rw [TO.out]
      have e : ints (L.take k ++ [x]) = ints (L.take k) ++ [.int .i64 x] := by simp [ints]
      rw [e]
      exact own_kept O9.out (fun j hj => heap_setCell_other w9 ⟨sb, 0, none⟩ j _ (fun e => own_ne O9.out K9.out (by decide) (by rw [hj]; exact congrArg some e)))
    · obtain ⟨g, cap, e1, _⟩ := own_shape O9.out (by omega)
      rw [e1]
      simp
    · exact hlow9.setCell (p := ⟨sb, 0, none⟩) (by show w.heap.size ≤ sb; have := ESB.out; omega) _
  case done =>
    rintro _ W6 rfl ⟨v, h⟩ _ hd
    have c1 := h.box.cell 0
    have HO := Lib.hid h
    have HD := Lib.hid hd
    clear h hd C0
    gi_wp2_with fail
    show LeavesInM _ _ _ _ _ _ _ _ _
    refine leaves_one (D := w1.heap.size) HD.out (fun o => ?_)
    have hn : NoCells W6 w1.heap.size := nc_def HD.out
    have ho := own_putX HO.out.own hn o
    rw [List.take_length] at ho
    refine ⟨v, by simp [results, Tryz.f151, go_sem], ⟨v, rfl, ho, HO.out.nil.trans List.length_eq_zero_iff⟩, HO.out.low.trans (below_putObj W6 w1.heap.size _ o HB1.out.size)⟩
end Go.Proofs.YtlbjmkljmhfjdaaGreat
namespace Go.Proofs.YtlbjmkljmhfjdaaGreat
open Go Go.RowKit Go.Maps Go.Shelf
attribute [local go_sem] Oper.semAt_some
/-- A row of numbers that is told. -/
def RowI (w : World) (L : List Int) (e : Ending) (w' : World) : Prop := (∃ v, e = .returned v ∧ w'.ownsRow w.heap.size 3 1 v L.length (ints L) ∧ (v = .slice none 0 0 ↔ L = [])) ∧ Below w.heap.size w w'
theorem rowI_nil (w w' : World) (hb : Below w.heap.size w w') : RowI w [] (.returned (.slice none 0 0)) w' := ⟨⟨_, rfl, World.ownsRow_nil _ _ _ _, by simp⟩, hb⟩
theorem row_rowI {w w' : World} {L : List Nat} {e : Ending} (h : Row w L e w') : RowI w (nums L) e w' := by
  obtain ⟨⟨v, h1, h2, h3⟩, hb⟩ := h
  exact ⟨⟨v, h1, by rw [nums_len]; exact h2, h3.trans (by simp [nums])⟩, hb⟩
theorem collect_any (f : FuncId) (lb : Array Value) (L : List Int) (hL : L.length ≤ 100000) (T : Nat → Prop) (w : World) (hT : ∀ j, T j → j < w.heap.size) (eg : ∀ args w, (callFunc f args).run Tryz.prog w = .ok (.enter f args) w)
    (hS : SeqX 12 Tryz.prog f lb (encI L) L.length T w) :
    Calls Tryz.prog 101 #[.func (.func f) #[] lb] w (RowI w L) := by
  have A := Lib.hid (appendSeq_any f lb L hL T w hT eg hS)
  clear hT eg hS hL
  go_enter Tryz.func101, Tryz.ntmps101
  go_wp2_with fail
  refine A.out.mono ?_
  rintro e w1 ⟨⟨v, rfl, ho, hn⟩, hb⟩
  have HO := Lib.hid ho
  have HN := Lib.hid hn
  have HB := Lib.hid hb
  clear ho hn hb
  go_wp2_with fail
  go_ret
  exact ⟨⟨v, rfl, HO.out, HN.out⟩, HB.out⟩
noncomputable def nodesAt (g : Gr) (n : Int) : List Int := by classical exact if rightB g = true ∧ 0 ≤ n ∧ n < g.nodes.length then ownN g.nodes (mayG g) n else []
noncomputable def callsAt (g : Gr) (n : Int) : List Nat := by classical exact if rightB g = true ∧ 0 ≤ n ∧ n < g.nodes.length then callsOf g n else []
theorem own_len {g : Gr} (hR : Right g) (n : Nat) (hn : n < g.nodes.length) : (ownN g.nodes (mayG g) n).length ≤ 2048 := by
  obtain ⟨ms, hm, _⟩ := hR.pre
  have h := own_rises hm (mayG g) _ n hn (Nat.le_refl _)
  have h2 := hm n (by omega) hn
  have h3 := hR.nodes
  have key : ∀ (a : List Int) (lo hi : Int), Rises a lo hi → (a.length : Int) ≤ max 0 (hi - lo) := by
    intro a
    induction a with
    | nil => intro lo hi _; simp; omega
    | cons x a ih =>
      intro lo hi h
      have h1 := h.each x (List.mem_cons_self ..)
      have hp := List.pairwise_cons.1 h.rise
      have := ih (x + 1) hi ⟨fun k hk => by have := hp.1 k hk; have := h.each k (List.mem_cons_of_mem _ hk); omega, hp.2⟩
      simp only [List.length_cons]
      omega
  have := key _ _ _ h
  omega
set_option maxRecDepth 100000 in
set_option maxHeartbeats 2000000 in
theorem lnodes_any (g : Gr) (n : Int) (hn : -9223372036854775808 ≤ n ∧ n < 9223372036854775808) (w : World) (hg : Gr.At w g) (hin : Gr.In g) (hc : Capd g) : Calls Tryz.prog 29 #[g.val, .int .i64 n] w (RowI w (nodesAt g n)) := by
  by_cases h : rightB g = true ∧ 0 ≤ n ∧ n < g.nodes.length
  · have e : nodesAt g n = ownN g.nodes (mayG g) n := by unfold nodesAt; rw [if_pos h]
    obtain ⟨hr, h0, h1⟩ := h
    have hR := rightB_true.1 hr
    obtain ⟨k, rfl⟩ : ∃ k : Nat, n = k := ⟨n.toNat, by omega⟩
    have hk : k < g.nodes.length := by omega
    rw [e]
    have WW := Lib.hid (fun (w' : World) (b : Below w.heap.size w w') => workWith_yes g k hk hR w' (hg.below b) hin)
    have OM := Lib.hid (fun p w' => own_make p k w')
    have CO := Lib.hid (fun (w1 : World) (p nb : Nat) (hW : Wk w1 p g nb) => collect_any 152 #[.pointer (some ⟨w1.heap.size + 1, 0, none⟩), .pointer (some ⟨w1.heap.size, 0, none⟩)] (ownN g.nodes (mayG g) k) (by have := own_len hR k hk; omega) (fun j => j < ((w1.alloc (.cells #[.pointer (some ⟨p, 0, none⟩)] 79)).alloc (.cells #[.int .i64 k] 3)).heap.size) _ (fun j h => h) (enters_of Tryz.func152 (by kernel_rfl) rfl)
      (own_in g hR hc g.nodes.length k hk (by omega) ((w1.alloc (.cells #[.pointer (some ⟨p, 0, none⟩)] 79)).alloc (.cells #[.int .i64 k] 3)) p nb w1.heap.size (w1.heap.size + 1) _
        ⟨fun W' hs ha => (hW.below (B2 _ _ _)).heap hs ha, fun j h => h, by simp; omega, by simp, (Blk.new _ _ _).alloc _, by have := Blk.new (w1.alloc (.cells #[.pointer (some ⟨p, 0, none⟩)] 79)) #[.int .i64 k] 3; rw [World.size_alloc] at this; exact this⟩))
    generalize ownN g.nodes (mayG g) k = L at CO ⊢
    clear hg hin hR hr h0 h1 hk e hc hn
    show Calls Tryz.prog 29 #[.agg #[.slice g.RA g.rules.length g.rc, .slice g.NA g.nodes.length g.nc], .int .i64 k] w _
    go_enter Tryz.func29, Tryz.ntmps29
    go_wp2_with (first | (go_at_call 100; with_reducible refine (WW.out _ (B1 _ _)).mono ?_; rintro e w1 ⟨p, nb, rfl, hW, hb⟩; have H1 := Lib.hid (bb (B1 w _) hb); have HW := Lib.hid hW; clear hb hW) | (go_at_call 102; with_reducible refine (OM.out _ _).mono ?_; rintro e w2 ⟨rfl, rfl⟩))
    refine (CO.out _ _ _ HW.out).mono ?_
    rintro e w3 ⟨⟨v, rfl, ho, hn⟩, hb⟩
    have h2 := H1.out.trans ((B2 w1 (.cells #[.pointer (some ⟨p, 0, none⟩)] 79) (.cells #[.int .i64 k] 3)).mono H1.out.size)
    have HO := Lib.hid (own_lower ho h2.size)
    have HN := Lib.hid hn
    have HB := Lib.hid (h2.trans (hb.mono h2.size))
    clear ho hn hb h2 CO
    go_wp2_with fail
    go_ret
    exact ⟨⟨v, rfl, HO.out, HN.out⟩, HB.out⟩
  · have e : nodesAt g n = [] := by unfold nodesAt; rw [if_neg h]
    rw [e]
    have WW := Lib.hid (fun (w' : World) (b : Below w.heap.size w w') => workWith_no g n hn w' (hg.below b) hin h)
    clear hg hin h e hc
    show Calls Tryz.prog 29 #[.agg #[.slice g.RA g.rules.length g.rc, .slice g.NA g.nodes.length g.nc], .int .i64 n] w _
    go_enter Tryz.func29, Tryz.ntmps29
    go_wp2_with (go_at_call 100; with_reducible refine (WW.out _ (B1 _ _)).mono ?_; rintro e w1 ⟨rfl, hb⟩; have H1 := Lib.hid (bb (B1 w _) hb); clear hb)
    go_ret
    exact rowI_nil _ _ H1.out
set_option maxRecDepth 100000 in
set_option maxHeartbeats 2000000 in
theorem lcalls_any (g : Gr) (n : Int) (hn : -9223372036854775808 ≤ n ∧ n < 9223372036854775808) (w : World) (hg : Gr.At w g) (hin : Gr.In g) (hc : Capd g) : Calls Tryz.prog 30 #[g.val, .int .i64 n] w (Row w (callsAt g n)) := by
  by_cases h : rightB g = true ∧ 0 ≤ n ∧ n < g.nodes.length
  · have e : callsAt g n = callsOf g n := by unfold callsAt; rw [if_pos h]
    obtain ⟨hr, h0, h1⟩ := h
    have hR := rightB_true.1 hr
    obtain ⟨k, rfl⟩ : ∃ k : Nat, n = k := ⟨n.toNat, by omega⟩
    have hk : k < g.nodes.length := by omega
    rw [e]
    have WW := Lib.hid (fun (w' : World) (b : Below w.heap.size w w') => workWith_yes g k hk hR w' (hg.below b) hin)
    have CO := Lib.hid (fun (w1 : World) (p nb : Nat) (hW : Wk w1 p g nb) => calls_any hW hR hc k hk)
    generalize callsOf g k = L at CO ⊢
    clear hg hin hR hr h0 h1 hk e hc hn
    show Calls Tryz.prog 30 #[.agg #[.slice g.RA g.rules.length g.rc, .slice g.NA g.nodes.length g.nc], .int .i64 k] w _
    go_enter Tryz.func30, Tryz.ntmps30
    go_wp2_with (go_at_call 100; with_reducible refine (WW.out _ (B1 _ _)).mono ?_; rintro e w1 ⟨p, nb, rfl, hW, hb⟩; have H1 := Lib.hid (bb (B1 w _) hb); have HW := Lib.hid hW; clear hb hW)
    refine (CO.out _ _ _ HW.out).mono ?_
    rintro e w3 ⟨⟨v, rfl, ho, hn⟩, hb⟩
    have HO := Lib.hid (own_lower ho H1.out.size)
    have HN := Lib.hid hn
    have HB := Lib.hid (H1.out.trans (hb.mono H1.out.size))
    clear ho hn hb CO
    go_wp2_with fail
    go_ret
    exact ⟨⟨v, rfl, HO.out, HN.out⟩, HB.out⟩
  · have e : callsAt g n = [] := by unfold callsAt; rw [if_neg h]
    rw [e]
    have WW := Lib.hid (fun (w' : World) (b : Below w.heap.size w w') => workWith_no g n hn w' (hg.below b) hin h)
    clear hg hin h e hc
    show Calls Tryz.prog 30 #[.agg #[.slice g.RA g.rules.length g.rc, .slice g.NA g.nodes.length g.nc], .int .i64 n] w _
    go_enter Tryz.func30, Tryz.ntmps30
    go_wp2_with (go_at_call 100; with_reducible refine (WW.out _ (B1 _ _)).mono ?_; rintro e w1 ⟨rfl, hb⟩; have H1 := Lib.hid (bb (B1 w _) hb); clear hb)
    go_ret
    exact row_nil _ _ H1.out
set_option maxRecDepth 100000 in
set_option maxHeartbeats 2000000 in
theorem bodyCalls_any {w : World} {p nb : Nat} {g : Gr} (h : Wk w p g nb) (hR : Right g) (hc : Capd g) (i : Nat) (hi : i < g.rules.length) :
    Calls Tryz.prog 92 #[.pointer (some ⟨p, 0, none⟩), .int .i64 i] w (Row w (lcal g i)) := by
  have hb := hR.body i hi
  have c0 := h.box.cell 0
  simp only [List.getElem?_toArray, List.getElem?_cons_zero, List.getElem?_cons_succ] at c0
  obtain ⟨b1, o1, eA, _, _, d1⟩ := h.gr.rules.two hi
  rw [eA] at c0
  have CO := Lib.hid (calls_any h hR hc (g.rules.getD i Rl.zero).body.toNat (by omega))
  rw [show (((g.rules.getD i Rl.zero).body.toNat : Nat) : Int) = (g.rules.getD i Rl.zero).body by omega] at CO
  have EL : RowKit.Hid (lcal g i = callsOf g (g.rules.getD i Rl.zero).body) := Lib.hid rfl
  rw [← EL.out] at CO
  generalize lcal g i = L at CO ⊢
  generalize (g.rules.getD i Rl.zero).body = bd at CO d1
  obtain ⟨m, em⟩ : ∃ m, m = g.rules.length := ⟨_, rfl⟩
  rw [← em] at c0 hi
  have hi2 : (i : Int) < m := by omega
  clear hb h em EL
  go_enter Tryz.func92, Tryz.ntmps92
  go_wp2_with fail
  refine CO.out.mono ?_
  rintro e w3 ⟨⟨v, rfl, ho, hn⟩, hb⟩
  have HO := Lib.hid ho
  have HN := Lib.hid hn
  have HB := Lib.hid hb
  clear ho hn hb CO
  go_wp2_with fail
  go_ret
  exact ⟨⟨v, rfl, HO.out, HN.out⟩, HB.out⟩
end Go.Proofs.YtlbjmkljmhfjdaaGreat

/- The reader: over, and the parts that are made of one word. -/
import Derived.Test.YtfghfnpiaccfaaaGreatDoorGA
import Derived.Laws.OwnMore
set_option linter.unusedSimpArgs false
set_option linter.unusedVariables false
namespace Go.Proofs.YtfghfnpiaccfaaaGreatDoor
open Go Go.RowKit Go.Maps
theorem cw_no (j : Nat) : (cw no j : Int) = 0 := by have : cw no j = 0 := cw_none j; omega
theorem Ptrs.one {w : World} {B g q : Nat} (h : Blk w g #[.pointer (some ⟨q, 0, none⟩)] 158) (hB : B ≤ g) : Ptrs w B (some ⟨g, 0, none⟩) [q] := fun i hi => by
  obtain rfl : i = 0 := by simpa using hi
  exact ⟨g, rfl, hB, h.lt, h.cell 0⟩
theorem FrAt.leaf {w : World} {B q : Nat} {l : List Nat} {x : Px} (hq : B ≤ q) (h : Blk w q (pcells l x (.slice none 0 0)) 224) : PtAt w B l (x, .nil) q :=
  ⟨q, [], none, 0, [], rfl, hq, h, Nat.le_refl _, fun i hi => by simp at hi, rfl, rfl⟩
theorem FrAt.one {w : World} {B q g r : Nat} {l : List Nat} {x : Px} {p : Pn} (hq : B ≤ q) (h : Blk w q (pcells l x (.slice (some ⟨g, 0, none⟩) 1 1)) 224) (hg : Blk w g #[.pointer (some ⟨r, 0, none⟩)] 158) (hB : B ≤ g) (hp : PtAt w B l p r) : PtAt w B l (x, p.fr .nil) q :=
  ⟨q, [], some ⟨g, 0, none⟩, 1, [r], rfl, hq, h, Nat.le_refl _, .one hg hB, hp, rfl⟩
set_option maxRecDepth 100000 in
theorem over_any (B : Nat) (l : List Nat) (K : Int) (i r : Nat) (p : Pn) (w : World) (hB : B ≤ w.heap.size) (hp : PtAt w B l p r) :
    Calls Tryz.prog 268 #[.int .i64 K, .int .i64 (beg l i : Nat), .pointer (some ⟨r, 0, none⟩)] w fun e w' => ∃ q, e = .returned (.pointer (some ⟨q, 0, none⟩)) ∧ Below w.heap.size w w' ∧ PtAt w' B l (⟨K, no, [], 0, i, []⟩, p.fr .nil) q := by
  have HP := Lib.hid hp
  clear hp
  go_enter Tryz.func268, Tryz.ntmps268
  go_wp2_with fail
  go_ret
  refine ⟨w.heap.size + 1, rfl, B2 _ _ _, .one (g := w.heap.size) (by omega) ?_ ((Blk.new _ _ _).alloc _) hB (FrAt.below HP.out (B2 _ _ _))⟩
  simp only [pcells, cw_no]
  have := Blk.new (w.alloc (.cells #[.pointer (some ⟨r, 0, none⟩)] 158)) #[.int .i64 K, .int .u64 0, .int .u64 0, .int .u64 0, .int .u64 0, .string ⟨#[]⟩, .int .i64 0, .int .i64 0, .slice none 0 0, .int .i64 (beg l i : Nat), .string ⟨#[]⟩, .slice (some ⟨w.heap.size, 0, none⟩) 1 1] 224
  rw [World.size_alloc] at this
  exact this
set_option maxRecDepth 100000 in
theorem call_any (c : Cx) (hf : c.Fine) (k d : Nat) (hk : k ≤ c.N) (w : World) (h : RdR c k d w) :
    Calls Tryz.prog 281 #[.pointer (some ⟨c.b, 0, none⟩)] w (PPost c d (.ok (⟨5, no, [], max (tkn c.l k).lev 0, k, (tkn c.l k).text⟩, .nil) (k + 1)) w) := by
  obtain ⟨x, ex⟩ : ∃ x, x = tkn c.l k := ⟨_, rfl⟩
  obtain ⟨p, ep⟩ : ∃ p, p = beg c.l k := ⟨_, rfl⟩
  have LT := Lib.hid (Nat.lt_of_lt_of_le h.blk.lt (Nat.le_refl _))
  have TK := ltake_any c hf k d hk w h
  rw [wfullx] at TK
  rw [← ex, ← ep] at TK
  rw [← ex]
  obtain ⟨z, ez⟩ : ∃ z : Nat, z = p + x.len := ⟨_, rfl⟩
  rw [← ez] at TK
  have EP := Lib.hid ep
  have TH := Lib.hid TK
  clear TK ex ep ez h
  go_enter Tryz.func281, Tryz.ntmps281
  go_wp2_with (first | (go_at_call 149; (with_reducible refine TH.out.mono ?_); rintro e w1 ⟨rfl, hg, hR⟩; have G1 := Lib.hid hg; have R1 := Lib.hid hR; clear hg hR) | (refine wpList_store_whole rfl 156 (.tmp 4) (.tmp 8) rfl w1.heap.size #[.int .i64 x.kind, .int .i64 p, .int .i64 z, .string (bsv x.text), .int .i64 x.lev, .int .u64 (cw x.cls 0), .int .u64 (cw x.cls 1), .int .u64 (cw x.cls 2), .int .u64 (cw x.cls 3)] rfl rfl 156 _ (Blk.new w1 wzero 156) (by kernel_rfl) (by rfl) (by simp [Value.oneCell']) ?_; intro w2 hk2 hg2; have G2 := Lib.hid (grown_new (grown_on G1.out (B1 w1 (.cells wzero 156))) hg2 (by have := G1.out.size; omega)); have R2 := Lib.hid ((R1.out.below hf (B1 w1 (.cells wzero 156))).apart hf hg2 (by have := R1.out.blk.lt; omega)); have k1 := hk2.cell 1; have k3 := hk2.cell 3; have k4 := hk2.cell 4; have k5 := hk2.cell 5; have k6 := hk2.cell 6; have k7 := hk2.cell 7; have k8 := hk2.cell 8; simp only [List.getElem?_toArray, List.getElem?_cons_zero, List.getElem?_cons_succ] at k1 k3 k4 k5 k6 k7 k8; clear hk2 hg2))
  go_ret2
  refine ⟨grown_on G2.out (B1 _ _), w2.heap.size, rfl, R2.out.below hf (B1 _ _), .leaf G2.out.size ?_⟩
  simp only [pcells, cw_no, ← EP.out]
  exact Blk.new _ _ _
set_option maxRecDepth 100000 in
theorem text_any (c : Cx) (hf : c.Fine) (k d : Nat) (hk : k ≤ c.N) (w : World) (h : RdR c k d w) :
    Calls Tryz.prog 282 #[.pointer (some ⟨c.b, 0, none⟩)] w (PPost c d (.ok (⟨4, no, (tkn c.l k).text, 0, k, []⟩, .nil) (k + 1)) w) := by
  obtain ⟨x, ex⟩ : ∃ x, x = tkn c.l k := ⟨_, rfl⟩
  obtain ⟨p, ep⟩ : ∃ p, p = beg c.l k := ⟨_, rfl⟩
  have LT := Lib.hid (Nat.lt_of_lt_of_le h.blk.lt (Nat.le_refl _))
  have TK := ltake_any c hf k d hk w h
  rw [wfullx] at TK
  rw [← ex, ← ep] at TK
  rw [← ex]
  obtain ⟨z, ez⟩ : ∃ z : Nat, z = p + x.len := ⟨_, rfl⟩
  rw [← ez] at TK
  have EP := Lib.hid ep
  have TH := Lib.hid TK
  clear TK ex ep ez h
  go_enter Tryz.func282, Tryz.ntmps282
  go_wp2_with (first | (go_at_call 149; (with_reducible refine TH.out.mono ?_); rintro e w1 ⟨rfl, hg, hR⟩; have G1 := Lib.hid hg; have R1 := Lib.hid hR; clear hg hR) | (refine wpList_store_whole rfl 156 (.tmp 4) (.tmp 8) rfl w1.heap.size #[.int .i64 x.kind, .int .i64 p, .int .i64 z, .string (bsv x.text), .int .i64 x.lev, .int .u64 (cw x.cls 0), .int .u64 (cw x.cls 1), .int .u64 (cw x.cls 2), .int .u64 (cw x.cls 3)] rfl rfl 156 _ (Blk.new w1 wzero 156) (by kernel_rfl) (by rfl) (by simp [Value.oneCell']) ?_; intro w2 hk2 hg2; have G2 := Lib.hid (grown_new (grown_on G1.out (B1 w1 (.cells wzero 156))) hg2 (by have := G1.out.size; omega)); have R2 := Lib.hid ((R1.out.below hf (B1 w1 (.cells wzero 156))).apart hf hg2 (by have := R1.out.blk.lt; omega)); have k1 := hk2.cell 1; have k3 := hk2.cell 3; have k4 := hk2.cell 4; have k5 := hk2.cell 5; have k6 := hk2.cell 6; have k7 := hk2.cell 7; have k8 := hk2.cell 8; simp only [List.getElem?_toArray, List.getElem?_cons_zero, List.getElem?_cons_succ] at k1 k3 k4 k5 k6 k7 k8; clear hk2 hg2))
  go_ret2
  refine ⟨grown_on G2.out (B1 _ _), w2.heap.size, rfl, R2.out.below hf (B1 _ _), .leaf G2.out.size ?_⟩
  simp only [pcells, cw_no, ← EP.out]
  exact Blk.new _ _ _
set_option maxRecDepth 100000 in
theorem rset_any (c : Cx) (hf : c.Fine) (k d : Nat) (hk : k ≤ c.N) (w : World) (h : RdR c k d w) :
    Calls Tryz.prog 283 #[.pointer (some ⟨c.b, 0, none⟩)] w (PPost c d (.ok (⟨3, (tkn c.l k).cls, [], 0, k, []⟩, .nil) (k + 1)) w) := by
  obtain ⟨x, ex⟩ : ∃ x, x = tkn c.l k := ⟨_, rfl⟩
  obtain ⟨p, ep⟩ : ∃ p, p = beg c.l k := ⟨_, rfl⟩
  have LT := Lib.hid (Nat.lt_of_lt_of_le h.blk.lt (Nat.le_refl _))
  have TK := ltake_any c hf k d hk w h
  rw [wfullx] at TK
  rw [← ex, ← ep] at TK
  rw [← ex]
  obtain ⟨z, ez⟩ : ∃ z : Nat, z = p + x.len := ⟨_, rfl⟩
  rw [← ez] at TK
  have EP := Lib.hid ep
  have TH := Lib.hid TK
  clear TK ex ep ez h
  go_enter Tryz.func283, Tryz.ntmps283
  go_wp2_with (first | (go_at_call 149; (with_reducible refine TH.out.mono ?_); rintro e w1 ⟨rfl, hg, hR⟩; have G1 := Lib.hid hg; have R1 := Lib.hid hR; clear hg hR) | (refine wpList_store_whole rfl 156 (.tmp 4) (.tmp 8) rfl w1.heap.size #[.int .i64 x.kind, .int .i64 p, .int .i64 z, .string (bsv x.text), .int .i64 x.lev, .int .u64 (cw x.cls 0), .int .u64 (cw x.cls 1), .int .u64 (cw x.cls 2), .int .u64 (cw x.cls 3)] rfl rfl 156 _ (Blk.new w1 wzero 156) (by kernel_rfl) (by rfl) (by simp [Value.oneCell']) ?_; intro w2 hk2 hg2; have G2 := Lib.hid (grown_new (grown_on G1.out (B1 w1 (.cells wzero 156))) hg2 (by have := G1.out.size; omega)); have R2 := Lib.hid ((R1.out.below hf (B1 w1 (.cells wzero 156))).apart hf hg2 (by have := R1.out.blk.lt; omega)); have k1 := hk2.cell 1; have k3 := hk2.cell 3; have k4 := hk2.cell 4; have k5 := hk2.cell 5; have k6 := hk2.cell 6; have k7 := hk2.cell 7; have k8 := hk2.cell 8; simp only [List.getElem?_toArray, List.getElem?_cons_zero, List.getElem?_cons_succ] at k1 k3 k4 k5 k6 k7 k8; clear hk2 hg2))
  go_ret2
  refine ⟨grown_on G2.out (B1 _ _), w2.heap.size, rfl, R2.out.below hf (B1 _ _), .leaf G2.out.size ?_⟩
  simp only [pcells, cw_no, ← EP.out]
  exact Blk.new _ _ _
set_option maxRecDepth 100000 in
theorem any_any (c : Cx) (hf : c.Fine) (k d : Nat) (hk : k ≤ c.N) (w : World) (h : RdR c k d w) :
    Calls Tryz.prog 284 #[.pointer (some ⟨c.b, 0, none⟩)] w (PPost c d (.ok (⟨2, no, [], 0, k, []⟩, .nil) (k + 1)) w) := by
  obtain ⟨x, ex⟩ : ∃ x, x = tkn c.l k := ⟨_, rfl⟩
  obtain ⟨p, ep⟩ : ∃ p, p = beg c.l k := ⟨_, rfl⟩
  have LT := Lib.hid (Nat.lt_of_lt_of_le h.blk.lt (Nat.le_refl _))
  have TK := ltake_any c hf k d hk w h
  rw [wfullx] at TK
  rw [← ex, ← ep] at TK
  obtain ⟨z, ez⟩ : ∃ z : Nat, z = p + x.len := ⟨_, rfl⟩
  rw [← ez] at TK
  have EP := Lib.hid ep
  have TH := Lib.hid TK
  clear TK ex ep ez h
  go_enter Tryz.func284, Tryz.ntmps284
  go_wp2_with (go_at_call 149; (with_reducible refine TH.out.mono ?_); rintro e w1 ⟨rfl, hg, hR⟩; have G1 := Lib.hid hg; have R1 := Lib.hid hR; clear hg hR)
  go_ret2
  refine ⟨grown_on G1.out (B1 _ _), w1.heap.size, rfl, R1.out.below hf (B1 _ _), .leaf G1.out.size ?_⟩
  simp only [pcells, cw_no, ← EP.out]
  exact Blk.new _ _ _
end Go.Proofs.YtfghfnpiaccfaaaGreatDoor
namespace Go.Proofs.YtfghfnpiaccfaaaGreatDoor
open Go Go.RowKit Go.Maps
theorem wpList_append_blk {P : Program} {ops : Array Oper} {rest : List Oper} {o : Oper} {a : Act} {w : World} {Q : Exit → Act → World → Prop} (hgd : o.guard = none) (s x : Operand) (t : TypeId) (hop : o.op = Op.call { callee := Callee.builtin Builtin.append, args := #[s, x], argTypes := #[t, t] })
    (base : Nat) (e : TypeId) (i : TypeInfo) (z : Value) (size bytes : Nat) (h1 : P.underlying t = some (.slice e)) (h2 : P.info? e = some i) (h3 : i.zero = some z) (h4 : i.size = size) (h5 : i.bytes = bytes) (h6 : z.cells.size = size) (h7 : 0 < size)
    (v : Value) (n : Nat) (xs : List Value) (hs : a.eval s = v) (hown : w.ownsRow base e size v n xs)
    (B m c : Nat) (hx : a.eval x = .slice (some ⟨B, 0, none⟩) m c) (vs : Array Value) (hB : Blk w B vs e) (hn : vs.size = m * size) (h1c : vs.all (·.oneCell') = true)
    (b1 : n + m ≤ maxLen) (b2 : (n + m) * bytes ≤ 140737488355328) (hbase : base ≤ w.heap.size)
    (hK : ∀ v' w', w'.ownsRow base e size v' (n + m) (xs ++ vs.toList) → w.grownBy w' v.ownBlock → (∀ k, v'.ownBlock = some k → v.ownBlock = some k ∨ w.heap.size ≤ k) → wpList P ops Q rest (a.put o.dst v') w') : wpList P ops Q (o :: rest) a w :=
  wpList_append_onto w hgd s x t hop base e i z size bytes h1 h2 h3 h4 h5 h6 h7 v n xs hs hown (some ⟨B, 0, none⟩) m c vs.toList hx (by simpa using hn) (fun a ha j u hu => by
    cases ha
    rw [Addr.add_lit, Nat.zero_add, hB.cell]
    simpa using hu) (fun h => by cases h) (fun u hu => Array.all_eq_true'.1 h1c u (by simpa using hu)) b1 b2 hbase hK
theorem Tryz.infoPP : (Tryz.prog.info? 158).map (fun i => (i.zero, i.size, i.bytes)) = some (some (.pointer none), 1, 8) := by kernel_rfl
def ptrs (qs : List Nat) : List Value := qs.map fun q => .pointer (some ⟨q, 0, none⟩)
theorem Ptrs.of_own {w : World} {B base : Nat} {A : Option Addr} {n cap : Nat} {qs : List Nat} (h : w.ownsRow base 158 1 (.slice A n cap) n (ptrs qs)) (hn : n = qs.length) (hB : B ≤ base) : Ptrs w B A qs := fun i hi => by
  rcases h.2 with ⟨h1, h2⟩ | ⟨g, cap', cur, h1, hbg, hgg, _⟩
  · omega
  · simp only [Value.slice.injEq] at h1
    obtain ⟨rfl, _, rfl⟩ := h1
    refine ⟨g, rfl, by omega, (Array.getElem?_eq_some_iff.1 hgg).1, ?_⟩
    rw [h.cellAt i (by omega)]
    simp [ptrs, List.getD_eq_getElem?_getD, List.getElem?_eq_getElem hi]
/-- What is still to be read behind what was read. -/
def pre (F : Fr) : Rs Fr → Rs Fr
  | .ok r j => .ok (F.app r) j
  | .no e j => .no e j
def cont (one : Nat → Rs Pn) (more : Nat → Option Nat) (g : Nat) (F : Fr) (k : Nat) : Rs Fr :=
  match F with
  | .nil => sev one more g k
  | .cons x ks r => match more k with
    | none => .ok (.cons x ks r) k
    | some j => pre (.cons x ks r) (sev one more g j)
theorem pre_pre (F G : Fr) (r : Rs Fr) : pre F (pre G r) = pre (F.app G) r := by
  cases r with
  | ok a j => simp only [pre, Fr.app_assoc]
  | no e j => rfl
theorem pre_nil (r : Rs Fr) : pre .nil r = r := by cases r <;> rfl
theorem sev_no {one : Nat → Rs Pn} {more : Nat → Option Nat} {g k : Nat} {e : Int} {j : Nat} (h : one k = .no e j) : sev one more (g + 1) k = .no e j := by unfold sev; rw [h]
theorem sev_ok {one : Nat → Rs Pn} {more : Nat → Option Nat} {g k : Nat} {p : Pn} {j : Nat} (h : one k = .ok p j) : sev one more (g + 1) k = cont one more g (p.fr .nil) j := by
  unfold sev
  rw [h]
  simp only [Pn.fr, cont]
  cases more j with
  | none => rfl
  | some i => simp only []; cases sev one more g i <;> rfl
theorem cont_none {one : Nat → Rs Pn} {more : Nat → Option Nat} {g k : Nat} {F : Fr} (hF : F ≠ .nil) (h : more k = none) : cont one more g F k = .ok F k := by
  cases F with
  | nil => exact absurd rfl hF
  | cons x ks r => unfold cont; rw [h]
theorem cont_some {one : Nat → Rs Pn} {more : Nat → Option Nat} {g k j : Nat} {F : Fr} (hF : F ≠ .nil) (h : more k = some j) : cont one more g F k = pre F (sev one more g j) := by
  cases F with
  | nil => exact absurd rfl hF
  | cons x ks r => unfold cont; rw [h]
theorem pre_cont {one : Nat → Rs Pn} {more : Nat → Option Nat} {g k : Nat} {F : Fr} {p : Pn} : pre F (cont one more g (p.fr .nil) k) = cont one more g (F.app (p.fr .nil)) k := by
  have h1 : p.fr .nil ≠ .nil := by simp [Pn.fr]
  have h2 : F.app (p.fr .nil) ≠ .nil := by cases F <;> simp [Fr.app, Pn.fr]
  cases h : more k with
  | none => rw [cont_none h1 h, cont_none h2 h]; rfl
  | some j => rw [cont_some h1 h, cont_some h2 h, pre_pre]
theorem RdR.pos {c : Cx} {k d : Nat} {w : World} (h : RdR c k d w) : posOf w c.b = k := by
  have := h.blk.cell 1
  simp only [Cx.cells, List.getElem?_toArray, List.getElem?_cons_zero, List.getElem?_cons_succ] at this
  unfold posOf
  rw [this]
  rfl
theorem PPost.no_ {c : Cx} {d : Nat} {er : Int} {j : Nat} {w : World} {e : Ending} {w' : World} (h : PPost c d (.no er j) w e w') : w.grownBy w' (some c.b) ∧ e = .returned (.tuple #[.pointer none, .bool false]) ∧ RdX c er (beg c.l j) w' := h
theorem own_far {w w' : World} {base e size n b : Nat} {v : Value} {xs : List Value} (h : w.ownsRow base e size v n xs) (hb : b < base) (hg : w.grownBy w' (some b)) : w'.ownsRow base e size v n xs :=
  own_kept h (fun k hk => hg.block k (h.lt k hk).2 (fun e => by have := (h.lt k hk).1; have := Option.some.inj e; omega))
theorem PPost.ok {c : Cx} {d : Nat} {p : Pn} {j : Nat} {w : World} {e : Ending} {w' : World} (h : PPost c d (.ok p j) w e w') : w.grownBy w' (some c.b) ∧ ∃ q, e = .returned (.tuple #[.pointer (some ⟨q, 0, none⟩), .bool true]) ∧ RdR c j d w' ∧ PtAt w' w.heap.size c.l p q := h
/-- The same but for two blocks. -/
def Stay (w : World) (B : Nat) (row : Option Nat) (w' : World) : Prop := w.heap.size ≤ w'.heap.size ∧ ∀ k, k < w.heap.size → k ≠ B → row ≠ some k → w'.heap[k]? = w.heap[k]?
theorem RdR.grownO {c : Cx} {k d : Nat} {w w' : World} {row : Option Nat} (h : RdR c k d w) (hf : c.Fine) (hg : w.grownBy w' row) (hr : ∀ r, row = some r → c.b < r) : RdR c k d w' := by
  cases row with
  | none => exact h.apart (r := w.heap.size) hf ⟨hg.os, hg.tape, hg.output, hg.size, fun k hk _ => hg.block k hk (by simp)⟩ h.blk.lt
  | some r => exact h.apart hf hg (hr r rfl)
/-- What lies as parts are read. -/
structure SvI (c : Cx) (d : Nat) (one : Nat → Rs Pn) (more : Nat → Option Nat) (r : Rs Fr) (w : World) (F : Fr) (qs : List Nat) (kk g : Nat) (v : Value) (wr : World) : Prop where
  le : kk ≤ c.N
  own : wr.ownsRow w.heap.size 158 1 v qs.length (ptrs qs)
  fr : ∀ w', Stay wr c.b v.ownBlock w' → FrAt w' w.heap.size c.l F qs
  rd : RdR c kk d wr
  gr : w.grownBy wr (some c.b)
  fuel : c.N < g + kk
  few : qs.length ≤ kk
  res : r = cont one more g F kk
  nil : F = .nil → v = .slice none 0 0
theorem SvI.shape {c : Cx} {d : Nat} {one : Nat → Rs Pn} {more : Nat → Option Nat} {R : Rs Fr} {w wr : World} {x : Px} {ks r : Fr} {qs : List Nat} {kk g n cap : Nat} {A : Option Addr} (h : SvI c d one more R w (.cons x ks r) qs kk g (.slice A n cap) wr) :
    ∃ q rest ab, qs = q :: rest ∧ A = some ⟨ab, 0, none⟩ ∧ rest.length = r.len := by
  obtain ⟨q, rest, A', cap', kqs, rfl, h2, h3, h4, h5, h6, h7⟩ := h.fr wr ⟨Nat.le_refl _, fun _ _ _ _ => rfl⟩
  rcases h.own.2 with ⟨h1, h2⟩ | ⟨g', cap, cur, h1, _⟩
  · simp at h2
  · simp only [Value.slice.injEq] at h1
    exact ⟨q, rest, g', rfl, h1.1, h7.len⟩
theorem SvI.done {c : Cx} {d : Nat} {one : Nat → Rs Pn} {more : Nat → Option Nat} {R : Rs Fr} {w wr w1 : World} {x : Px} {ks r : Fr} {q : Nat} {rest : List Nat} {kk g cap ab : Nat} (bw : c.b < w.heap.size) (h : SvI c d one more R w (.cons x ks r) (q :: rest) kk g (.slice (some ⟨ab, 0, none⟩) (rest.length + 1) cap) wr) (hg : wr.grownBy w1 (some c.b)) :
    w1.cell? ⟨ab, 0, none⟩ = some (.pointer (some ⟨q, 0, none⟩)) ∧ w1.cell? ⟨q, 9, none⟩ = some (.int .i64 (beg c.l x.at_ : Nat)) ∧ FrAt w1 w.heap.size c.l (.cons x ks r) (q :: rest) ∧ Ptrs w1 w.heap.size (some ⟨ab, 0, none⟩) (q :: rest) := by
  have ho := own_far h.own bw hg
  have hF := h.fr w1 ⟨hg.size, fun k hk hn _ => hg.block k hk (fun e => hn (Option.some.inj e))⟩
  have hP := Ptrs.of_own ho rfl (Nat.le_refl _)
  refine ⟨?_, ?_, hF, hP⟩
  · have := ho.cellAt 0 (by simp)
    rw [this]; simp [ptrs]
  · obtain ⟨q', rest', A', cap', kqs, e, h2, h3, _⟩ := hF
    simp only [List.cons.injEq] at e
    obtain ⟨rfl, rfl⟩ := e
    exact h3.cell 9
def gathR (K : Int) : Rs Fr → Rs Pn
  | .no e j => .no e j
  | .ok r j => .ok (gath K r) j
theorem several_eq (K : Int) (one : Nat → Rs Pn) (more : Nat → Option Nat) (f k : Nat) : several K one more f k = gathR K (sev one more f k) := by
  unfold several gathR
  cases sev one more f k <;> rfl
theorem ptrs_app (qs : List Nat) (q : Nat) : ptrs qs ++ [.pointer (some ⟨q, 0, none⟩)] = ptrs (qs ++ [q]) := by simp [ptrs]
theorem SvI.next {c : Cx} {d : Nat} {one : Nat → Rs Pn} {more : Nat → Option Nat} {R : Rs Fr} {w wr w2 w4 : World} {F : Fr} {qs : List Nat} {kk g j0 j q : Nat} {v v' : Value} {p : Pn} {o : Obj} (hf : c.Fine) (bw : c.b < w.heap.size) (h : SvI c d one more R w F qs kk (g + 1) v wr)
    (hj : (F = .nil ∧ j0 = kk) ∨ (F ≠ .nil ∧ more kk = some j0)) (h1 : one j0 = .ok p j) (hkj : kk < j) (hjN : j ≤ c.N) (hg2 : wr.grownBy w2 (some c.b)) (hR2 : RdR c j d w2) (hP2 : PtAt w2 wr.heap.size c.l p q)
    (ho : w4.ownsRow w.heap.size 158 1 v' (qs.length + 1) (ptrs qs ++ [.pointer (some ⟨q, 0, none⟩)])) (hg4 : (w2.alloc o).grownBy w4 v.ownBlock) (hv : ∀ k, v'.ownBlock = some k → v.ownBlock = some k ∨ (w2.alloc o).heap.size ≤ k) :
    SvI c d one more R w (F.app (p.fr .nil)) (qs ++ [q]) j g v' w4 := by
  have s2 := hg2.size
  have s4 : w2.heap.size + 1 ≤ w4.heap.size := by have := hg4.size; simpa using this
  have sw := h.gr.size
  have vl : ∀ k, v.ownBlock = some k → w.heap.size ≤ k ∧ k < wr.heap.size := fun k e => h.own.lt k e
  have k24 : ∀ k, k < w2.heap.size → v.ownBlock ≠ some k → w4.heap[k]? = w2.heap[k]? := fun k hk hn => (hg4.block k (by simp; omega) (fun e => hn e.symm)).trans (Below.heap_alloc w2 o k hk)
  refine ⟨hjN, ?_, fun w' hS => ?_, ?_, ?_, by have := h.fuel; omega, by rw [List.length_append]; have := h.few; simp; omega, ?_, fun e => ?_⟩
  · rw [List.length_append, ← ptrs_app]; exact ho
  · refine FrAt.app (h.fr w' ⟨by have := hS.1; omega, fun k hk hn hv' => ?_⟩) ?_
    · refine (hS.2 k (by omega) hn (fun e => ?_)).trans ((k24 k (by omega) hv').trans (hg2.block k hk (fun e => hn (Option.some.inj e))))
      rcases hv k e with e' | e'
      · exact hv' e'
      · simp at e'; omega
    · refine FrAt.lower (lo := wr.heap.size) sw (FrAt.kept (w := w2) (by have := hS.1; omega) (fun k h1 h2 => ?_) hP2)
      refine (hS.2 k (by omega) (by omega) (fun e => ?_)).trans (k24 k h2 (fun e => by have := (vl k e).2; omega))
      rcases hv k e with e' | e'
      · have := (vl k e').2; omega
      · simp at e'; omega
  · exact (hR2.below hf (B1 w2 o)).grownO hf hg4 (fun r e => by have := (vl r e).1; omega)
  · refine ⟨hg4.os.trans (hg2.os.trans h.gr.os), hg4.tape.trans (hg2.tape.trans h.gr.tape), hg4.output.trans (hg2.output.trans h.gr.output), by omega, fun k hk hn => ?_⟩
    exact (k24 k (by omega) (fun e => by have := (vl k e).1; omega)).trans ((hg2.block k (by omega) hn).trans (h.gr.block k hk hn))
  · rw [h.res]
    rcases hj with ⟨rfl, rfl⟩ | ⟨hF, hm⟩
    · exact sev_ok h1
    · rw [cont_some hF hm, sev_ok h1, pre_cont]
  · have : F.app (p.fr .nil) ≠ .nil := by cases F <;> simp [Fr.app, Pn.fr]
    exact absurd e this
theorem SvI.ne {c : Cx} {d : Nat} {one : Nat → Rs Pn} {more : Nat → Option Nat} {R : Rs Fr} {w wr : World} {F : Fr} {qs : List Nat} {kk g : Nat} {v : Value} (h : SvI c d one more R w F qs kk g v wr) (hq : 0 < qs.length) : v ≠ .slice none 0 0 := by
  rintro rfl
  rcases h.own.2 with ⟨h1, h2⟩ | ⟨g', cap, cur, h1, _⟩
  · omega
  · cases h1
set_option maxRecDepth 100000 in
set_option maxHeartbeats 4000000 in
theorem sev_alt (c : Cx) (hf : c.Fine) (d : Nat) (one : Nat → Rs Pn) (more : Nat → Option Nat) (hone : ∀ k p j, k ≤ c.N → one k = .ok p j → k < j ∧ j ≤ c.N) (hmore : ∀ k j, k ≤ c.N → more k = some j → k ≤ j ∧ j ≤ c.N)
    (k : Nat) (hk : k ≤ c.N) (h1 : ∀ j, k ≤ j → j ≤ c.N → ∀ W, RdR c j d W → Calls Tryz.prog 206 #[.pointer (some ⟨c.b, 0, none⟩)] W (PPost c d (one j) W))
    (h2 : ∀ j, j ≤ c.N → ∀ W, RdR c j d W → Calls Tryz.prog 207 #[.pointer (some ⟨c.b, 0, none⟩)] W fun e w' => e = .returned (.bool (more j).isSome) ∧ W.grownBy w' (some c.b) ∧ RdR c ((more j).getD j) d w')
    (w : World) (h : RdR c k d w) :
    Calls Tryz.prog 205 #[.pointer (some ⟨c.b, 0, none⟩), .int .i64 7, .func (.func 206) #[.pointer (some ⟨c.b, 0, none⟩)] #[], .func (.func 207) #[.pointer (some ⟨c.b, 0, none⟩)] #[]] w (PPost c d (several 7 one more (c.N + 1 - k) k) w) := by
  have H1 := Lib.hid h1
  have H2 := Lib.hid h2
  have HO := Lib.hid hone
  have HM := Lib.hid hmore
  have HF := Lib.hid hf
  have bw := h.blk.lt
  have HN : c.N ≤ 16384 := Nat.le_trans hf.n hf.size
  have I0 : RowKit.Hid (SvI c d one more (sev one more (c.N + 1 - k) k) w .nil [] k (c.N + 1 - k) (.slice none 0 0) w) := Lib.hid ⟨hk, World.ownsRow_nil _ _ _ _, fun _ _ => rfl, h, World.grownBy.refl _ _, by omega, Nat.zero_le _, rfl, fun _ => rfl⟩
  have ES : RowKit.Hid (several 7 one more (c.N + 1 - k) k = gathR 7 (sev one more (c.N + 1 - k) k)) := Lib.hid (several_eq _ _ _ _ _)
  generalize sev one more (c.N + 1 - k) k = R at I0 ES
  generalize several 7 one more (c.N + 1 - k) k = RR at ES ⊢
  obtain ⟨i0, hi, ei⟩ := Option.map_eq_some_iff.1 Tryz.infoPP
  simp only [Prod.mk.injEq] at ei
  obtain ⟨hz0, hz1, hz2⟩ := ei
  clear h1 h2 hone hmore h
  go_enter Tryz.func205, Tryz.ntmps205
  go_wp2_with fail
  go_loopw [10] (fun v wr => ∃ (F : Fr) (qs : List Nat) (kk g : Nat), k ≤ kk ∧ SvI c d one more R w F qs kk g v wr) (fun v wr => 2 * (c.N + 1 - posOf wr c.b))
  case atStart => exact ⟨.nil, [], k, _, Nat.le_refl _, I0.out⟩
  case round =>
    obtain ⟨F, qs, kk, g, hkk, hI⟩ := hrel
    obtain ⟨A, cap, rfl, hA0, hcap⟩ := own_slice hI.own
    have HI := Lib.hid hI
    have KK := Lib.hid hkk
    have hg1 := hI.fuel
    have hle := hI.le
    obtain ⟨g, rfl⟩ : ∃ g', g = g' + 1 := ⟨g - 1, by omega⟩
    have hql : qs.length ≤ 16384 := by have := hI.few; omega
    have PB : posOf wr c.b = kk := hI.rd.pos
    clear hI hkk hg1
    cases F with
    | nil =>
      have hv := HI.out.nil rfl
      simp only [Value.slice.injEq] at hv
      obtain ⟨rfl, hq0, rfl⟩ := hv
      obtain rfl : qs = [] := List.eq_nil_of_length_eq_zero hq0
      clear hA0 hcap hq0
      simp only [List.length_nil] at hql ⊢
      have CA := H1.out kk KK.out hle wr HI.out.rd
      cases h1 : one kk with
      | no er j =>
        rw [h1] at CA
        have RE : RowKit.Hid (RR = .no er j) := Lib.hid (by rw [ES.out, HI.out.res]; simp only [cont]; rw [sev_no h1]; rfl)
        have CH := Lib.hid CA
        clear CA h1
        go_wp2_with (go_at_call 206; (with_reducible refine CH.out.mono ?_); rintro e w2 ⟨hg, rfl, hX⟩; have G2 := Lib.hid (grown_trans HI.out.gr hg); have X2 := Lib.hid hX; clear hg hX)
        go_ret2
        rw [RE.out]
        exact ⟨G2.out, rfl, X2.out⟩
      | ok p j =>
        rw [h1] at CA
        have hkj := HO.out kk p j hle h1
        have CH := Lib.hid CA
        have E1 := Lib.hid h1
        clear CA h1
        go_wp2_with (first | (go_at_call 206; (with_reducible refine CH.out.mono ?_); rintro e w2 ⟨hg, q, rfl, hR, hP⟩; have G2 := Lib.hid hg; have R2 := Lib.hid hR; have P2 := Lib.hid hP; have OW := Lib.hid (own_far HI.out.own bw hg); clear hg hR hP) | (refine wpList_append_blk rfl (.tmp 27) (.tmp 29) 222 rfl w.heap.size 158 i0 (.pointer none) 1 8 Tryz.underlying222 hi hz0 hz1 hz2 rfl (by decide) (.slice none 0 0) 0 (ptrs []) rfl (own_below OW.out (B1 _ _)) w2.heap.size 1 1 rfl #[.pointer (some ⟨q, 0, none⟩)] (Blk.new w2 _ 158) rfl (by simp [Value.oneCell']) (by decide) (by decide) (by have := G2.out.size; have := HI.out.gr.size; simp; omega) ?_; intro v' w4 ho hg4 hv4; have I4 := Lib.hid (HI.out.next hf bw (.inl ⟨rfl, rfl⟩) E1.out hkj.1 hkj.2 G2.out R2.out P2.out ho hg4 hv4); clear ho hg4 hv4))
        go_roundw
        case rel => exact ⟨_, _, j, g, by have := KK.out; omega, I4.out⟩
        case measure => rw [I4.out.rd.pos, PB]; omega
    | cons x ks r =>
      have hq1 : 0 < qs.length := by
        have := (HI.out.fr wr ⟨Nat.le_refl _, fun _ _ _ _ => rfl⟩).len
        rw [this]; simp [Fr.len]
      have hne : ((qs.length : Int) == 0) = false := by simp; intro h0; subst h0; simp at hq1
      have C2 := H2.out kk hle wr HI.out.rd
      cases hm : more kk with
      | none =>
        rw [hm] at C2
        have RE : RowKit.Hid (RR = .ok (gath 7 (.cons x ks r)) kk) := Lib.hid (by rw [ES.out, HI.out.res, cont_none (by simp) hm]; rfl)
        have CM := Lib.hid C2
        clear C2 hm
        obtain ⟨q, rest, ab, rfl, rfl, hrl⟩ := HI.out.shape
        simp only [List.length_cons] at HI hql hcap hne ⊢
        cases r with
        | nil =>
          obtain rfl : rest = [] := List.eq_nil_of_length_eq_zero hrl
          clear hrl hA0
          simp only [List.length_nil, Nat.zero_add, Int.natCast_one] at HI hql hcap hne ⊢
          go_wp2_with (go_at_call 207; (with_reducible refine CM.out.mono ?_); rintro e w1 ⟨rfl, hg, hR⟩; have G1 := Lib.hid (grown_trans HI.out.gr hg); have R1 := Lib.hid (show RdR c kk d w1 from hR); have DD := HI.out.done bw hg; have c0 := DD.1; have c9 := DD.2.1; have FP := Lib.hid DD.2.2; clear hg hR DD)
          go_ret2
          rw [RE.out]
          exact ⟨G1.out, q, rfl, R1.out, FP.out.1⟩
        | cons x' ks' r' =>
          have hn1 : (((rest.length + 1 : Nat) : Int) == 1) = false := by simp only [Fr.len] at hrl; simp; omega
          have hn2 : ((rest.length : Int) + 1 == 1) = false := by simp only [Fr.len] at hrl; simp; omega
          have hl0 : (0 : Int) < ((rest.length + 1 : Nat) : Int) := by omega
          have hl1 : (0 : Int) < (rest.length : Int) + 1 := by omega
          clear hA0 hrl
          go_wp2_with (go_at_call 207; (with_reducible refine CM.out.mono ?_); rintro e w1 ⟨rfl, hg, hR⟩; have G1 := Lib.hid (grown_trans HI.out.gr hg); have R1 := Lib.hid (show RdR c kk d w1 from hR); have DD := HI.out.done bw hg; have c0 := DD.1; have c9 := DD.2.1; have FP := Lib.hid DD.2.2; clear hg hR DD)
          go_ret2
          rw [RE.out]
          refine ⟨grown_on G1.out (B1 _ _), w1.heap.size, rfl, R1.out.below hf (B1 _ _), w1.heap.size, [], some ⟨ab, 0, none⟩, cap, q :: rest, rfl, G1.out.size, ?_, hcap, FP.out.2.kept (by simp) (fun k _ hk => Below.heap_alloc _ _ k hk), FP.out.1.below (B1 _ _), rfl⟩
          simp only [pcells, cw_no]
          exact Blk.new _ _ _
      | some j0 =>
        rw [hm] at C2
        have hj0 := HM.out kk j0 hle hm
        have CM := Lib.hid C2
        cases h1 : one j0 with
        | no er j =>
          have RE : RowKit.Hid (RR = .no er j) := Lib.hid (by rw [ES.out, HI.out.res, cont_some (by simp) hm, sev_no h1]; rfl)
          have CA := Lib.hid (fun W hW => H1.out j0 (by have := KK.out; omega) hj0.2 W hW)
          rw [h1] at CA
          clear C2 hm h1
          go_wp2_with (first | (go_at_call 207; (with_reducible refine CM.out.mono ?_); rintro e w1 ⟨rfl, hg, hR⟩; have G1 := Lib.hid hg; have R1 := Lib.hid (show RdR c j0 d w1 from hR); clear hg hR) | (go_at_call 206; (with_reducible refine (CA.out _ R1.out).mono ?_); rintro e w2 ⟨hg, rfl, hX⟩; have G2 := Lib.hid (grown_trans (grown_trans HI.out.gr G1.out) hg); have X2 := Lib.hid hX; clear hg hX))
          go_ret2
          rw [RE.out]
          exact ⟨G2.out, rfl, X2.out⟩
        | ok p j =>
          have hkj := HO.out j0 p j hj0.2 h1
          have CA := Lib.hid (fun W hW => H1.out j0 (by have := KK.out; omega) hj0.2 W hW)
          rw [h1] at CA
          have E1 := Lib.hid (And.intro h1 hm)
          clear C2 hm h1
          go_wp2_with (first | (go_at_call 207; (with_reducible refine CM.out.mono ?_); rintro e w1 ⟨rfl, hg, hR⟩; have G1 := Lib.hid hg; have R1 := Lib.hid (show RdR c j0 d w1 from hR); clear hg hR) | (go_at_call 206; (with_reducible refine (CA.out _ R1.out).mono ?_); rintro e w2 ⟨hg, q, rfl, hR, hP⟩; have G2 := Lib.hid (grown_trans G1.out hg); have R2 := Lib.hid hR; have P2 := Lib.hid (FrAt.lower G1.out.size hP); have OW := Lib.hid (own_far HI.out.own bw G2.out); clear hg hR hP) | (refine wpList_append_blk rfl (.tmp 27) (.tmp 29) 222 rfl w.heap.size 158 i0 (.pointer none) 1 8 Tryz.underlying222 hi hz0 hz1 hz2 rfl (by decide) (.slice A qs.length cap) qs.length (ptrs qs) rfl (own_below OW.out (B1 _ _)) w2.heap.size 1 1 rfl #[.pointer (some ⟨q, 0, none⟩)] (Blk.new w2 _ 158) rfl (by simp [Value.oneCell']) (by unfold maxLen; omega) (by omega) (by have := G2.out.size; have := HI.out.gr.size; simp; omega) ?_; intro v' w4 ho hg4 hv4; have I4 := Lib.hid (HI.out.next hf bw (.inr ⟨by simp, E1.out.2⟩) E1.out.1 (by omega) hkj.2 G2.out R2.out P2.out ho hg4 hv4); clear ho hg4 hv4))
          go_roundw
          case rel => exact ⟨_, _, j, g, by have := KK.out; omega, I4.out⟩
          case measure => rw [I4.out.rd.pos, PB]; omega
set_option maxRecDepth 100000 in
set_option maxHeartbeats 4000000 in
theorem sev_seq (c : Cx) (hf : c.Fine) (d : Nat) (one : Nat → Rs Pn) (more : Nat → Option Nat) (hone : ∀ k p j, k ≤ c.N → one k = .ok p j → k < j ∧ j ≤ c.N) (hmore : ∀ k j, k ≤ c.N → more k = some j → k ≤ j ∧ j ≤ c.N)
    (k : Nat) (hk : k ≤ c.N) (h1 : ∀ j, k ≤ j → j ≤ c.N → ∀ W, RdR c j d W → Calls Tryz.prog 245 #[.pointer (some ⟨c.b, 0, none⟩)] W (PPost c d (one j) W))
    (h2 : ∀ j, j ≤ c.N → ∀ W, RdR c j d W → Calls Tryz.prog 246 #[.pointer (some ⟨c.b, 0, none⟩)] W fun e w' => e = .returned (.bool (more j).isSome) ∧ W.grownBy w' (some c.b) ∧ RdR c ((more j).getD j) d w')
    (w : World) (h : RdR c k d w) :
    Calls Tryz.prog 205 #[.pointer (some ⟨c.b, 0, none⟩), .int .i64 6, .func (.func 245) #[.pointer (some ⟨c.b, 0, none⟩)] #[], .func (.func 246) #[.pointer (some ⟨c.b, 0, none⟩)] #[]] w (PPost c d (several 6 one more (c.N + 1 - k) k) w) := by
  have H1 := Lib.hid h1
  have H2 := Lib.hid h2
  have HO := Lib.hid hone
  have HM := Lib.hid hmore
  have HF := Lib.hid hf
  have bw := h.blk.lt
  have HN : c.N ≤ 16384 := Nat.le_trans hf.n hf.size
  have I0 : RowKit.Hid (SvI c d one more (sev one more (c.N + 1 - k) k) w .nil [] k (c.N + 1 - k) (.slice none 0 0) w) := Lib.hid ⟨hk, World.ownsRow_nil _ _ _ _, fun _ _ => rfl, h, World.grownBy.refl _ _, by omega, Nat.zero_le _, rfl, fun _ => rfl⟩
  have ES : RowKit.Hid (several 6 one more (c.N + 1 - k) k = gathR 6 (sev one more (c.N + 1 - k) k)) := Lib.hid (several_eq _ _ _ _ _)
  generalize sev one more (c.N + 1 - k) k = R at I0 ES
  generalize several 6 one more (c.N + 1 - k) k = RR at ES ⊢
  obtain ⟨i0, hi, ei⟩ := Option.map_eq_some_iff.1 Tryz.infoPP
  simp only [Prod.mk.injEq] at ei
  obtain ⟨hz0, hz1, hz2⟩ := ei
  clear h1 h2 hone hmore h
  go_enter Tryz.func205, Tryz.ntmps205
  go_wp2_with fail
  go_loopw [10] (fun v wr => ∃ (F : Fr) (qs : List Nat) (kk g : Nat), k ≤ kk ∧ SvI c d one more R w F qs kk g v wr) (fun v wr => 2 * (c.N + 1 - posOf wr c.b))
  case atStart => exact ⟨.nil, [], k, _, Nat.le_refl _, I0.out⟩
  case round =>
    obtain ⟨F, qs, kk, g, hkk, hI⟩ := hrel
    obtain ⟨A, cap, rfl, hA0, hcap⟩ := own_slice hI.own
    have HI := Lib.hid hI
    have KK := Lib.hid hkk
    have hg1 := hI.fuel
    have hle := hI.le
    obtain ⟨g, rfl⟩ : ∃ g', g = g' + 1 := ⟨g - 1, by omega⟩
    have hql : qs.length ≤ 16384 := by have := hI.few; omega
    have PB : posOf wr c.b = kk := hI.rd.pos
    clear hI hkk hg1
    cases F with
    | nil =>
      have hv := HI.out.nil rfl
      simp only [Value.slice.injEq] at hv
      obtain ⟨rfl, hq0, rfl⟩ := hv
      obtain rfl : qs = [] := List.eq_nil_of_length_eq_zero hq0
      clear hA0 hcap hq0
      simp only [List.length_nil] at hql ⊢
      have CA := H1.out kk KK.out hle wr HI.out.rd
      cases h1 : one kk with
      | no er j =>
        rw [h1] at CA
        have RE : RowKit.Hid (RR = .no er j) := Lib.hid (by rw [ES.out, HI.out.res]; simp only [cont]; rw [sev_no h1]; rfl)
        have CH := Lib.hid CA
        clear CA h1
        go_wp2_with (go_at_call 245; (with_reducible refine CH.out.mono ?_); rintro e w2 ⟨hg, rfl, hX⟩; have G2 := Lib.hid (grown_trans HI.out.gr hg); have X2 := Lib.hid hX; clear hg hX)
        go_ret2
        rw [RE.out]
        exact ⟨G2.out, rfl, X2.out⟩
      | ok p j =>
        rw [h1] at CA
        have hkj := HO.out kk p j hle h1
        have CH := Lib.hid CA
        have E1 := Lib.hid h1
        clear CA h1
        go_wp2_with (first | (go_at_call 245; (with_reducible refine CH.out.mono ?_); rintro e w2 ⟨hg, q, rfl, hR, hP⟩; have G2 := Lib.hid hg; have R2 := Lib.hid hR; have P2 := Lib.hid hP; have OW := Lib.hid (own_far HI.out.own bw hg); clear hg hR hP) | (refine wpList_append_blk rfl (.tmp 27) (.tmp 29) 222 rfl w.heap.size 158 i0 (.pointer none) 1 8 Tryz.underlying222 hi hz0 hz1 hz2 rfl (by decide) (.slice none 0 0) 0 (ptrs []) rfl (own_below OW.out (B1 _ _)) w2.heap.size 1 1 rfl #[.pointer (some ⟨q, 0, none⟩)] (Blk.new w2 _ 158) rfl (by simp [Value.oneCell']) (by decide) (by decide) (by have := G2.out.size; have := HI.out.gr.size; simp; omega) ?_; intro v' w4 ho hg4 hv4; have I4 := Lib.hid (HI.out.next hf bw (.inl ⟨rfl, rfl⟩) E1.out hkj.1 hkj.2 G2.out R2.out P2.out ho hg4 hv4); clear ho hg4 hv4))
        go_roundw
        case rel => exact ⟨_, _, j, g, by have := KK.out; omega, I4.out⟩
        case measure => rw [I4.out.rd.pos, PB]; omega
    | cons x ks r =>
      have hq1 : 0 < qs.length := by
        have := (HI.out.fr wr ⟨Nat.le_refl _, fun _ _ _ _ => rfl⟩).len
        rw [this]; simp [Fr.len]
      have hne : ((qs.length : Int) == 0) = false := by simp; intro h0; subst h0; simp at hq1
      have C2 := H2.out kk hle wr HI.out.rd
      cases hm : more kk with
      | none =>
        rw [hm] at C2
        have RE : RowKit.Hid (RR = .ok (gath 6 (.cons x ks r)) kk) := Lib.hid (by rw [ES.out, HI.out.res, cont_none (by simp) hm]; rfl)
        have CM := Lib.hid C2
        clear C2 hm
        obtain ⟨q, rest, ab, rfl, rfl, hrl⟩ := HI.out.shape
        simp only [List.length_cons] at HI hql hcap hne ⊢
        cases r with
        | nil =>
          obtain rfl : rest = [] := List.eq_nil_of_length_eq_zero hrl
          clear hrl hA0
          simp only [List.length_nil, Nat.zero_add, Int.natCast_one] at HI hql hcap hne ⊢
          go_wp2_with (go_at_call 246; (with_reducible refine CM.out.mono ?_); rintro e w1 ⟨rfl, hg, hR⟩; have G1 := Lib.hid (grown_trans HI.out.gr hg); have R1 := Lib.hid (show RdR c kk d w1 from hR); have DD := HI.out.done bw hg; have c0 := DD.1; have c9 := DD.2.1; have FP := Lib.hid DD.2.2; clear hg hR DD)
          go_ret2
          rw [RE.out]
          exact ⟨G1.out, q, rfl, R1.out, FP.out.1⟩
        | cons x' ks' r' =>
          have hn1 : (((rest.length + 1 : Nat) : Int) == 1) = false := by simp only [Fr.len] at hrl; simp; omega
          have hn2 : ((rest.length : Int) + 1 == 1) = false := by simp only [Fr.len] at hrl; simp; omega
          have hl0 : (0 : Int) < ((rest.length + 1 : Nat) : Int) := by omega
          have hl1 : (0 : Int) < (rest.length : Int) + 1 := by omega
          clear hA0 hrl
          go_wp2_with (go_at_call 246; (with_reducible refine CM.out.mono ?_); rintro e w1 ⟨rfl, hg, hR⟩; have G1 := Lib.hid (grown_trans HI.out.gr hg); have R1 := Lib.hid (show RdR c kk d w1 from hR); have DD := HI.out.done bw hg; have c0 := DD.1; have c9 := DD.2.1; have FP := Lib.hid DD.2.2; clear hg hR DD)
          go_ret2
          rw [RE.out]
          refine ⟨grown_on G1.out (B1 _ _), w1.heap.size, rfl, R1.out.below hf (B1 _ _), w1.heap.size, [], some ⟨ab, 0, none⟩, cap, q :: rest, rfl, G1.out.size, ?_, hcap, FP.out.2.kept (by simp) (fun k _ hk => Below.heap_alloc _ _ k hk), FP.out.1.below (B1 _ _), rfl⟩
          simp only [pcells, cw_no]
          exact Blk.new _ _ _
      | some j0 =>
        rw [hm] at C2
        have hj0 := HM.out kk j0 hle hm
        have CM := Lib.hid C2
        cases h1 : one j0 with
        | no er j =>
          have RE : RowKit.Hid (RR = .no er j) := Lib.hid (by rw [ES.out, HI.out.res, cont_some (by simp) hm, sev_no h1]; rfl)
          have CA := Lib.hid (fun W hW => H1.out j0 (by have := KK.out; omega) hj0.2 W hW)
          rw [h1] at CA
          clear C2 hm h1
          go_wp2_with (first | (go_at_call 246; (with_reducible refine CM.out.mono ?_); rintro e w1 ⟨rfl, hg, hR⟩; have G1 := Lib.hid hg; have R1 := Lib.hid (show RdR c j0 d w1 from hR); clear hg hR) | (go_at_call 245; (with_reducible refine (CA.out _ R1.out).mono ?_); rintro e w2 ⟨hg, rfl, hX⟩; have G2 := Lib.hid (grown_trans (grown_trans HI.out.gr G1.out) hg); have X2 := Lib.hid hX; clear hg hX))
          go_ret2
          rw [RE.out]
          exact ⟨G2.out, rfl, X2.out⟩
        | ok p j =>
          have hkj := HO.out j0 p j hj0.2 h1
          have CA := Lib.hid (fun W hW => H1.out j0 (by have := KK.out; omega) hj0.2 W hW)
          rw [h1] at CA
          have E1 := Lib.hid (And.intro h1 hm)
          clear C2 hm h1
          go_wp2_with (first | (go_at_call 246; (with_reducible refine CM.out.mono ?_); rintro e w1 ⟨rfl, hg, hR⟩; have G1 := Lib.hid hg; have R1 := Lib.hid (show RdR c j0 d w1 from hR); clear hg hR) | (go_at_call 245; (with_reducible refine (CA.out _ R1.out).mono ?_); rintro e w2 ⟨hg, q, rfl, hR, hP⟩; have G2 := Lib.hid (grown_trans G1.out hg); have R2 := Lib.hid hR; have P2 := Lib.hid (FrAt.lower G1.out.size hP); have OW := Lib.hid (own_far HI.out.own bw G2.out); clear hg hR hP) | (refine wpList_append_blk rfl (.tmp 27) (.tmp 29) 222 rfl w.heap.size 158 i0 (.pointer none) 1 8 Tryz.underlying222 hi hz0 hz1 hz2 rfl (by decide) (.slice A qs.length cap) qs.length (ptrs qs) rfl (own_below OW.out (B1 _ _)) w2.heap.size 1 1 rfl #[.pointer (some ⟨q, 0, none⟩)] (Blk.new w2 _ 158) rfl (by simp [Value.oneCell']) (by unfold maxLen; omega) (by omega) (by have := G2.out.size; have := HI.out.gr.size; simp; omega) ?_; intro v' w4 ho hg4 hv4; have I4 := Lib.hid (HI.out.next hf bw (.inr ⟨by simp, E1.out.2⟩) E1.out.1 (by omega) hkj.2 G2.out R2.out P2.out ho hg4 hv4); clear ho hg4 hv4))
          go_roundw
          case rel => exact ⟨_, _, j, g, by have := KK.out; omega, I4.out⟩
          case measure => rw [I4.out.rd.pos, PB]; omega
end Go.Proofs.YtfghfnpiaccfaaaGreatDoor
namespace Go.Proofs.YtfghfnpiaccfaaaGreatDoor
open Go Go.RowKit Go.Maps
theorem str41 : Str ⟨#[41]⟩ [41] := rfl
/-- What is in brackets. -/
def brk (tk : Nat → Wd) (al : Nat → Rs Pn) (d k : Nat) : Rs Pn :=
  if d = 500 then .no 3 k
  else if sgk tk (k + 1) = [41] then .ok (⟨1, no, [], 0, k, []⟩, .nil) (k + 2)
  else match al (k + 1) with
    | .no e j => .no e j
    | .ok p j => if sgk tk j = [41] then .ok p (j + 1) else .no 7 j
theorem RdR.c4 {c : Cx} {k d : Nat} {w : World} (h : RdR c k d w) : w.cell? ⟨c.b, 4, none⟩ = some (.int .i64 (d : Int)) := h.blk.cell 4
set_option maxRecDepth 100000 in
set_option maxHeartbeats 1000000 in
theorem bracket_any (c : Cx) (hf : c.Fine) (k d : Nat) (hk : k + 1 ≤ c.N) (hd : d ≤ 500) (al : Nat → Rs Pn) (hlt : ∀ k p j, k ≤ c.N → al k = .ok p j → k < j ∧ j ≤ c.N)
    (hal : d < 500 → ∀ j, k < j → j ≤ c.N → ∀ W, RdR c j (d + 1) W → Calls Tryz.prog 151 #[.pointer (some ⟨c.b, 0, none⟩)] W (PPost c (d + 1) (al j) W)) (w : World) (h : RdR c k d w) :
    Calls Tryz.prog 285 #[.pointer (some ⟨c.b, 0, none⟩)] w (PPost c d (brk (tkn c.l) al d k) w) := by
  have bw := Lib.hid h.blk.lt
  have c4 := h.c4
  by_cases h5 : d = 500
  · have WR := Lib.hid (wrong_any c hf k d (by omega) 3 w h)
    have RE : RowKit.Hid (brk (tkn c.l) al d k = .no 3 k) := Lib.hid (by unfold brk; rw [if_pos h5])
    generalize brk (tkn c.l) al d k = RR at RE ⊢
    have h5i : ((d : Int) == 500) = true := by simp; omega
    clear h hal hlt h5
    go_enter Tryz.func285, Tryz.ntmps285
    go_wp2_with (go_at_call 148; (with_reducible refine WR.out.mono ?_); rintro e w1 ⟨rfl, hg, hX⟩; have G1 := Lib.hid hg; have X1 := Lib.hid hX; clear hg hX)
    go_ret2
    rw [RE.out]
    exact ⟨G1.out, rfl, X1.out⟩
  have h5i : ((d : Int) == 500) = false := by simp; omega
  have TK := ltake_any c hf k d (by omega) w h
  rw [wfullx] at TK
  obtain ⟨x, ex⟩ : ∃ x, x = tkn c.l k := ⟨_, rfl⟩
  obtain ⟨p0, ep⟩ : ∃ p, p = beg c.l k := ⟨_, rfl⟩
  rw [← ex, ← ep] at TK
  obtain ⟨z, ez⟩ : ∃ z : Nat, z = p0 + x.len := ⟨_, rfl⟩
  rw [← ez] at TK
  have EP := Lib.hid ep
  have TH := Lib.hid TK
  clear TK ex ez ep
  have PS := Lib.hid (fun W hW => lpass_any c hf (k + 1) d hk _ _ str41 W hW)
  by_cases h41 : sgk (tkn c.l) (k + 1) = [41]
  · have RE : RowKit.Hid (brk (tkn c.l) al d k = .ok (⟨1, no, [], 0, k, []⟩, .nil) (k + 2)) := Lib.hid (by unfold brk; rw [if_neg h5, if_pos h41])
    generalize brk (tkn c.l) al d k = RR at RE ⊢
    simp only [h41, decide_true, if_true] at PS
    clear h hal hlt h5 h41
    go_enter Tryz.func285, Tryz.ntmps285
    go_wp2_with (first | (go_at_call 149; (with_reducible refine TH.out.mono ?_); rintro e w1 ⟨rfl, hg, hR⟩; have G1 := Lib.hid hg; have R1 := Lib.hid hR; clear hg hR) | (go_at_call 204; (with_reducible refine (PS.out _ R1.out).mono ?_); rintro e w2 ⟨rfl, hg, hR⟩; have G2 := Lib.hid (grown_trans G1.out hg); have R2 := Lib.hid hR; clear hg hR))
    go_ret2
    rw [RE.out]
    refine ⟨grown_on G2.out (B1 _ _), w2.heap.size, rfl, R2.out.below hf (B1 _ _), .leaf G2.out.size ?_⟩
    simp only [pcells, cw_no, ← EP.out]
    exact Blk.new _ _ _
  simp only [h41, decide_false, if_false] at PS
  have hd3 : (d : Int) ≤ 500 := by omega
  have AL := Lib.hid (hal (by omega) (k + 1) (by omega) hk)
  have LT := Lib.hid (hlt (k + 1))
  cases ha : al (k + 1) with
  | no er j =>
    have RE : RowKit.Hid (brk (tkn c.l) al d k = .no er j) := Lib.hid (by unfold brk; rw [if_neg h5, if_neg h41, ha])
    generalize brk (tkn c.l) al d k = RR at RE ⊢
    rw [ha] at AL
    clear h hal hlt h5 h41 ha
    go_enter Tryz.func285, Tryz.ntmps285
    go_wp2_with (first | (go_at_call 149; (with_reducible refine TH.out.mono ?_); rintro e w1 ⟨rfl, hg, hR⟩; have G1 := Lib.hid hg; have R1 := Lib.hid hR; clear hg hR) | (go_at_call 204; (with_reducible refine (PS.out _ R1.out).mono ?_); rintro e w2 ⟨rfl, hg, hR⟩; have G2 := Lib.hid (grown_trans G1.out hg); have R2 := Lib.hid hR; have q4 := R2.out.c4; have f4 := R2.out.blk.frozen 4; have OP := R2.out.open_ hf (d + 1) ((d : Int) + 1) (by omega); have R3 := Lib.hid OP.1; have G3 := Lib.hid (grown_trans G2.out OP.2); clear hg hR OP) | (go_at_call 151; (with_reducible refine (AL.out _ R3.out).mono ?_); rintro e w4 hp; have QQ := hp.no_; obtain ⟨hg, rfl, hX⟩ := QQ; have G4 := Lib.hid (grown_trans G3.out hg); have X4 := Lib.hid hX; clear hg hX hp))
    go_ret2
    rw [RE.out]
    exact ⟨G4.out, rfl, X4.out⟩
  | ok p j =>
    have hj := hlt (k + 1) p j hk ha
    rw [ha] at AL
    have MU := Lib.hid (fun W hW => must_any c hf j (d + 1) hj.2 _ _ str41 W hW)
    by_cases hm : sgk (tkn c.l) j = [41]
    · have RE : RowKit.Hid (brk (tkn c.l) al d k = .ok p (j + 1)) := Lib.hid (by unfold brk; rw [if_neg h5, if_neg h41, ha]; simp only [if_pos hm])
      generalize brk (tkn c.l) al d k = RR at RE ⊢
      simp only [hm, ne_eq, not_true, true_and, false_and, or_false] at MU
      clear h hal hlt h5 h41 ha hm
      go_enter Tryz.func285, Tryz.ntmps285
      go_wp2_with (first | (go_at_call 149; (with_reducible refine TH.out.mono ?_); rintro e w1 ⟨rfl, hg, hR⟩; have G1 := Lib.hid hg; have R1 := Lib.hid hR; clear hg hR) | (go_at_call 204; (with_reducible refine (PS.out _ R1.out).mono ?_); rintro e w2 ⟨rfl, hg, hR⟩; have G2 := Lib.hid (grown_trans G1.out hg); have R2 := Lib.hid hR; have q4 := R2.out.c4; have f4 := R2.out.blk.frozen 4; have OP := R2.out.open_ hf (d + 1) ((d : Int) + 1) (by omega); have R3 := Lib.hid OP.1; have G3 := Lib.hid (grown_trans G2.out OP.2); clear hg hR OP) | (go_at_call 151; (with_reducible refine (AL.out _ R3.out).mono ?_); rintro e w4 hp; have QQ := hp.ok; obtain ⟨hg, q, rfl, hR, hP⟩ := QQ; have G4 := Lib.hid (grown_trans G3.out hg); have R4 := Lib.hid hR; have P4 := Lib.hid (FrAt.lower G3.out.size hP); clear hg hR hP hp) | (go_at_call 150; (with_reducible refine (MU.out _ R4.out).mono ?_); rintro e w5 ⟨hg, rfl, hR⟩; have G5 := Lib.hid (grown_trans G4.out hg); have P5 := Lib.hid (FrAt.grown P4.out hg bw.out); have R5 := Lib.hid hR; have r4 := R5.out.c4; have g4 := R5.out.blk.frozen 4; have OP := R5.out.open_ hf d (d : Int) rfl; have R6 := Lib.hid OP.1; have G6 := Lib.hid (grown_trans G5.out OP.2); have P6 := Lib.hid (FrAt.grown P5.out OP.2 bw.out); clear hg hR OP))
      go_ret2
      rw [RE.out]
      exact ⟨G6.out, q, rfl, R6.out, P6.out⟩
    · have RE : RowKit.Hid (brk (tkn c.l) al d k = .no 7 j) := Lib.hid (by unfold brk; rw [if_neg h5, if_neg h41, ha]; simp only [if_neg hm])
      generalize brk (tkn c.l) al d k = RR at RE ⊢
      simp only [hm, ne_eq, not_false_eq_true, true_and, false_and, false_or] at MU
      clear h hal hlt h5 h41 ha hm
      go_enter Tryz.func285, Tryz.ntmps285
      go_wp2_with (first | (go_at_call 149; (with_reducible refine TH.out.mono ?_); rintro e w1 ⟨rfl, hg, hR⟩; have G1 := Lib.hid hg; have R1 := Lib.hid hR; clear hg hR) | (go_at_call 204; (with_reducible refine (PS.out _ R1.out).mono ?_); rintro e w2 ⟨rfl, hg, hR⟩; have G2 := Lib.hid (grown_trans G1.out hg); have R2 := Lib.hid hR; have q4 := R2.out.c4; have f4 := R2.out.blk.frozen 4; have OP := R2.out.open_ hf (d + 1) ((d : Int) + 1) (by omega); have R3 := Lib.hid OP.1; have G3 := Lib.hid (grown_trans G2.out OP.2); clear hg hR OP) | (go_at_call 151; (with_reducible refine (AL.out _ R3.out).mono ?_); rintro e w4 hp; have QQ := hp.ok; obtain ⟨hg, q, rfl, hR, hP⟩ := QQ; have G4 := Lib.hid (grown_trans G3.out hg); have R4 := Lib.hid hR; clear hg hR hP hp) | (go_at_call 150; (with_reducible refine (MU.out _ R4.out).mono ?_); rintro e w5 ⟨hg, rfl, hX⟩; have G5 := Lib.hid (grown_trans G4.out hg); have X5 := Lib.hid hX; clear hg hX))
      go_ret2
      rw [RE.out]
      exact ⟨G5.out, rfl, X5.out⟩
end Go.Proofs.YtfghfnpiaccfaaaGreatDoor
namespace Go.Proofs.YtfghfnpiaccfaaaGreatDoor
open Go Go.RowKit Go.Maps
theorem prim_0 {tk : Nat → Wd} {al : Nat → Rs Pn} {d k : Nat} (h : mk tk k = 0) : prim tk al d k = .no 7 k := by unfold prim; rw [if_pos h]
theorem prim_1 {tk : Nat → Wd} {al : Nat → Rs Pn} {d k : Nat} (h : mk tk k = 1) : prim tk al d k = .ok (⟨5, no, [], max (tk k).lev 0, k, (tk k).text⟩, .nil) (k + 1) := by unfold prim; simp [h]
theorem prim_2 {tk : Nat → Wd} {al : Nat → Rs Pn} {d k : Nat} (h : mk tk k = 2) : prim tk al d k = .ok (⟨4, no, (tk k).text, 0, k, []⟩, .nil) (k + 1) := by unfold prim; simp [h]
theorem prim_3 {tk : Nat → Wd} {al : Nat → Rs Pn} {d k : Nat} (h : mk tk k = 3) : prim tk al d k = .ok (⟨3, (tk k).cls, [], 0, k, []⟩, .nil) (k + 1) := by unfold prim; simp [h]
theorem prim_4 {tk : Nat → Wd} {al : Nat → Rs Pn} {d k : Nat} (h : mk tk k = 4) : prim tk al d k = .ok (⟨2, no, [], 0, k, []⟩, .nil) (k + 1) := by unfold prim; simp [h]
theorem prim_5 {tk : Nat → Wd} {al : Nat → Rs Pn} {d k : Nat} (h : mk tk k = 5) : prim tk al d k = brk tk al d k := by
  unfold prim brk
  simp only [h, if_neg (show ¬ (5 : Nat) = 0 by decide), if_neg (show ¬ (5 : Nat) = 1 by decide), if_neg (show ¬ (5 : Nat) = 2 by decide), if_neg (show ¬ (5 : Nat) = 3 by decide), if_neg (show ¬ (5 : Nat) = 4 by decide)]
  cases al (k + 1) <;> rfl
theorem PPost.two {c : Cx} {d : Nat} {r : Rs Pn} {w : World} {e : Ending} {w' : World} (h : PPost c d r w e w') : (∃ (a : Option Addr) (b : Bool), e = .returned (.tuple #[.pointer a, .bool b])) ∧ PPost c d r w e w' := by
  refine ⟨?_, h⟩
  cases r with
  | ok p j => obtain ⟨_, q, h1, _⟩ := h; exact ⟨_, _, h1⟩
  | no e j => exact ⟨_, _, h.2.1⟩
section
variable (c : Cx) (hf : c.Fine) (d : Nat) (al : Nat → Rs Pn)
/-- What is known of the alts that stand behind a word. -/
def AlOk (k : Nat) : Prop := (∀ k p j, k ≤ c.N → al k = .ok p j → k < j ∧ j ≤ c.N) ∧ (d < 500 → ∀ j, k < j → j ≤ c.N → ∀ W, RdR c j (d + 1) W → Calls Tryz.prog 151 #[.pointer (some ⟨c.b, 0, none⟩)] W (PPost c (d + 1) (al j) W))
end
set_option maxRecDepth 100000 in
set_option maxHeartbeats 1000000 in
theorem primary_any (c : Cx) (hf : c.Fine) (d : Nat) (al : Nat → Rs Pn) (k : Nat) (hk : k ≤ c.N) (hd : d ≤ 500) (hA : AlOk c d al k) (w : World) (h : RdR c k d w) :
    Calls Tryz.prog 280 #[.pointer (some ⟨c.b, 0, none⟩)] w (PPost c d (prim (tkn c.l) al d k) w) := by
  have MK := maker_any c hf k d hk w h
  have RB := Lib.hid (fun W (hb : Below w.heap.size w W) => h.below hf hb)
  have h5 := mk_le (tkn c.l) k
  have hks : mk (tkn c.l) k ≠ 0 → k + 1 ≤ c.N := fun hm => hf.toks.next hk (mk_ne hm)
  have PL : ∀ {r : Rs Pn} {w1 : World} {e : Ending} {w2 : World}, Below w.heap.size w w1 → PPost c d r w1 e w2 → PPost c d r w e w2 := fun {r w1 e w2} hb hp => by
    obtain ⟨hg, hp⟩ := hp
    refine ⟨grown_trans (below_is_grown hb _) hg, ?_⟩
    cases r with
    | ok p j => obtain ⟨q, h1, h2, h3⟩ := hp; exact ⟨q, h1, h2, FrAt.lower hb.size h3⟩
    | no e j => exact hp
  have LP := Lib.hid (fun (r : Rs Pn) (w1 : World) (e : Ending) (w2 : World) => @PL r w1 e w2)
  clear PL
  by_cases z1 : mk (tkn c.l) k = 1
  · have CA := Lib.hid (fun W (hb : Below w.heap.size w W) => (call_any c hf k d hk W (RB.out _ hb)).mono fun e w2 hp => (LP.out _ _ _ _ hb hp).two)
    rw [prim_1 z1]
    rw [z1] at MK
    have MH := Lib.hid MK
    generalize (PPost c d (.ok (⟨5, no, [], max (tkn c.l k).lev 0, k, (tkn c.l k).text⟩, .nil) (k + 1)) w) = PO at CA ⊢
    clear MK z1 hks hA h h5
    go_enter Tryz.func280, Tryz.ntmps280
    go_wp2_with (first | (go_at_call 269; (with_reducible refine MH.out.mono ?_); rintro e w1 ⟨rfl, hb⟩; have HB := Lib.hid hb; clear hb; simp only [mkv]) | (go_at_call 281; (with_reducible refine (CA.out _ HB.out).mono ?_); rintro e w2 ⟨⟨a, b, rfl⟩, hp⟩; have HP := Lib.hid hp; clear hp))
    exact HP.out
  by_cases z2 : mk (tkn c.l) k = 2
  · have CA := Lib.hid (fun W (hb : Below w.heap.size w W) => (text_any c hf k d hk W (RB.out _ hb)).mono fun e w2 hp => (LP.out _ _ _ _ hb hp).two)
    rw [prim_2 z2]
    rw [z2] at MK
    have MH := Lib.hid MK
    generalize (PPost c d (.ok (⟨4, no, (tkn c.l k).text, 0, k, []⟩, .nil) (k + 1)) w) = PO at CA ⊢
    clear MK z2 hks hA h h5
    go_enter Tryz.func280, Tryz.ntmps280
    go_wp2_with (first | (go_at_call 269; (with_reducible refine MH.out.mono ?_); rintro e w1 ⟨rfl, hb⟩; have HB := Lib.hid hb; clear hb; simp only [mkv]) | (go_at_call 282; (with_reducible refine (CA.out _ HB.out).mono ?_); rintro e w2 ⟨⟨a, b, rfl⟩, hp⟩; have HP := Lib.hid hp; clear hp))
    exact HP.out
  by_cases z3 : mk (tkn c.l) k = 3
  · have CA := Lib.hid (fun W (hb : Below w.heap.size w W) => (rset_any c hf k d hk W (RB.out _ hb)).mono fun e w2 hp => (LP.out _ _ _ _ hb hp).two)
    rw [prim_3 z3]
    rw [z3] at MK
    have MH := Lib.hid MK
    generalize (PPost c d (.ok (⟨3, (tkn c.l k).cls, [], 0, k, []⟩, .nil) (k + 1)) w) = PO at CA ⊢
    clear MK z3 hks hA h h5
    go_enter Tryz.func280, Tryz.ntmps280
    go_wp2_with (first | (go_at_call 269; (with_reducible refine MH.out.mono ?_); rintro e w1 ⟨rfl, hb⟩; have HB := Lib.hid hb; clear hb; simp only [mkv]) | (go_at_call 283; (with_reducible refine (CA.out _ HB.out).mono ?_); rintro e w2 ⟨⟨a, b, rfl⟩, hp⟩; have HP := Lib.hid hp; clear hp))
    exact HP.out
  by_cases z4 : mk (tkn c.l) k = 4
  · have CA := Lib.hid (fun W (hb : Below w.heap.size w W) => (any_any c hf k d hk W (RB.out _ hb)).mono fun e w2 hp => (LP.out _ _ _ _ hb hp).two)
    rw [prim_4 z4]
    rw [z4] at MK
    have MH := Lib.hid MK
    generalize (PPost c d (.ok (⟨2, no, [], 0, k, []⟩, .nil) (k + 1)) w) = PO at CA ⊢
    clear MK z4 hks hA h h5
    go_enter Tryz.func280, Tryz.ntmps280
    go_wp2_with (first | (go_at_call 269; (with_reducible refine MH.out.mono ?_); rintro e w1 ⟨rfl, hb⟩; have HB := Lib.hid hb; clear hb; simp only [mkv]) | (go_at_call 284; (with_reducible refine (CA.out _ HB.out).mono ?_); rintro e w2 ⟨⟨a, b, rfl⟩, hp⟩; have HP := Lib.hid hp; clear hp))
    exact HP.out
  by_cases z5 : mk (tkn c.l) k = 5
  · have CA := Lib.hid (fun W (hb : Below w.heap.size w W) => (bracket_any c hf k d (hks (by rw [z5]; decide)) hd al hA.1 (fun hd j hj hjN W hW => hA.2 hd j hj hjN W hW) W (RB.out _ hb)).mono fun e w2 hp => (LP.out _ _ _ _ hb hp).two)
    rw [prim_5 z5]
    rw [z5] at MK
    have MH := Lib.hid MK
    generalize (PPost c d (brk (tkn c.l) al d k) w) = PO at CA ⊢
    clear MK z5 hks hA h h5
    go_enter Tryz.func280, Tryz.ntmps280
    go_wp2_with (first | (go_at_call 269; (with_reducible refine MH.out.mono ?_); rintro e w1 ⟨rfl, hb⟩; have HB := Lib.hid hb; clear hb; simp only [mkv]) | (go_at_call 285; (with_reducible refine (CA.out _ HB.out).mono ?_); rintro e w2 ⟨⟨a, b, rfl⟩, hp⟩; have HP := Lib.hid hp; clear hp))
    exact HP.out
  have z0 : mk (tkn c.l) k = 0 := by omega
  have WR := Lib.hid (fun W (hb : Below w.heap.size w W) => wrong_any c hf k d hk 7 W (RB.out _ hb))
  rw [prim_0 z0]
  rw [z0] at MK
  have MH := Lib.hid MK
  clear MK z0 z1 z2 z3 z4 z5 hks hA h h5
  go_enter Tryz.func280, Tryz.ntmps280
  go_wp2_with (first | (go_at_call 269; (with_reducible refine MH.out.mono ?_); rintro e w1 ⟨rfl, hb⟩; have HB := Lib.hid hb; clear hb; simp only [mkv]) | (go_at_call 148; (with_reducible refine (WR.out _ HB.out).mono ?_); rintro e w2 ⟨rfl, hg, hX⟩; have G2 := Lib.hid (grown_trans (below_is_grown HB.out (some c.b)) hg); have X2 := Lib.hid hX; clear hg hX))
  go_ret2
  exact ⟨G2.out, rfl, X2.out⟩
theorem suf_none {tk : Nat → Wd} {f k : Nat} {p : Pn} (h : behindK (sgk tk k) = none) : suf tk (f + 1) p k = .ok p k := by unfold suf; rw [h]
theorem suf_some {tk : Nat → Wd} {f k : Nat} {p : Pn} {K : Int} (h : behindK (sgk tk k) = some K) : suf tk (f + 1) p k = suf tk f (⟨K, no, [], 0, k, []⟩, p.fr .nil) (k + 1) := by
  conv => lhs; unfold suf
  rw [h]
set_option maxRecDepth 100000 in
set_option maxHeartbeats 2000000 in
theorem suffixed_any (c : Cx) (hf : c.Fine) (d : Nat) (al : Nat → Rs Pn) (k : Nat) (hk : k ≤ c.N) (hd : d ≤ 500) (hA : AlOk c d al k) (w : World) (h : RdR c k d w) :
    Calls Tryz.prog 267 #[.pointer (some ⟨c.b, 0, none⟩)] w (PPost c d (sufd (tkn c.l) c.N (prim (tkn c.l) al d k)) w) := by
  have PR := primary_any c hf d al k hk hd hA w h
  have bw := Lib.hid h.blk.lt
  cases hp : prim (tkn c.l) al d k with
  | no er j =>
    rw [hp] at PR
    have PH := Lib.hid PR
    clear PR hp hA h
    show Calls _ _ _ w (PPost c d (.no er j) w)
    go_enter Tryz.func267, Tryz.ntmps267
    go_wp2_with (go_at_call 280; (with_reducible refine PH.out.mono ?_); rintro e w1 hp; have QQ := hp.no_; obtain ⟨hg, rfl, hX⟩ := QQ; have G1 := Lib.hid hg; have X1 := Lib.hid hX; clear hp hg hX)
    go_ret2
    exact ⟨G1.out, rfl, X1.out⟩
  | ok p j =>
    rw [hp] at PR
    have hj := prim_lt hf.toks hA.1 hk hp
    have PH := Lib.hid PR
    obtain ⟨R, eR⟩ : ∃ R, R = sufd (tkn c.l) c.N (.ok p j) := ⟨_, rfl⟩
    have RE : RowKit.Hid (R = suf (tkn c.l) (c.N + 1 - j) p j) := Lib.hid eR
    rw [← eR]
    have HN : c.N ≤ 16384 := Nat.le_trans hf.n hf.size
    clear PR hp hA h eR
    go_enter Tryz.func267, Tryz.ntmps267
    go_wp2_with (go_at_call 280; (with_reducible refine PH.out.mono ?_); rintro e w1 hp; have QQ := hp.ok; obtain ⟨hg, q, rfl, hR, hP⟩ := QQ; have G1 := Lib.hid hg; have R1 := Lib.hid hR; have P1 := Lib.hid hP; clear hp hg hR hP)
    go_loopw [4] (fun v wr => ∃ (p : Pn) (q kk g : Nat), kk ≤ c.N ∧ v = .pointer (some ⟨q, 0, none⟩) ∧ PtAt wr w.heap.size c.l p q ∧ RdR c kk d wr ∧ w.grownBy wr (some c.b) ∧ c.N < g + kk ∧ R = suf (tkn c.l) g p kk) (fun _ wr => c.N + 1 - posOf wr c.b)
    case atStart => exact ⟨p, q, j, c.N + 1 - j, hj.2, rfl, P1.out, R1.out, G1.out, by omega, RE.out⟩
    case round =>
      obtain ⟨p, q, kk, g, hkk, rfl, hP, hR, hG, hN, hRe⟩ := hrel
      obtain ⟨g, rfl⟩ : ∃ g', g = g' + 1 := ⟨g - 1, by omega⟩
      have LK := fun (e : Ext wr) => look_bh c hf hkk hR e
      have SG := Lib.hid (fun (e : Ext wr) => lsign_any c hf kk d hkk e.val (hR.below hf e.grown))
      have TK := Lib.hid (fun W (hb : Below wr.heap.size wr W) => ltake_any c hf kk d hkk W (hR.below hf hb))
      have c3 := hR.blk.cell 3
      simp only [Cx.cells, List.getElem?_toArray, List.getElem?_cons_zero, List.getElem?_cons_succ] at c3
      have d3 := fun (e : Ext wr) => Ext.cell c3 e
      have PB : posOf wr c.b = kk := hR.pos
      have HP := Lib.hid hP
      have HR := Lib.hid hR
      have HG := Lib.hid hG
      have HE := Lib.hid hRe
      generalize bsv (sgk (tkn c.l) kk) = S at LK SG
      clear hP hR hG hRe c3
      cases hb : behindK (sgk (tkn c.l) kk) with
      | none =>
        have RE2 : RowKit.Hid (R = .ok p kk) := Lib.hid (by rw [HE.out, suf_none hb])
        rw [hb] at LK
        simp only [Option.getD_none, Option.isSome_none] at LK
        clear hb
        go_wp2_with fail
        refine wp_region_ext (by kernel_rfl) (by kernel_rfl) ?_
        repeat (first | go_big_quiet_step (first | (go_at_call 244; with_reducible exact Calls.ext_of (SG.out _))))
        refine wpQuiet_nil ?_
        intro wd hw'
        obtain ⟨⟨wd', hb9⟩, e9⟩ := hw'
        obtain rfl : wd = wd' := e9
        have B9 := Lib.hid hb9
        clear hb9 LK d3
        go_wp2_with fail
        go_ret2
        rw [RE2.out]
        exact ⟨grown_on HG.out B9.out, q, rfl, HR.out.below hf B9.out, FrAt.below HP.out B9.out⟩
      | some K =>
        have RE2 : RowKit.Hid (R = suf (tkn c.l) g (⟨K, no, [], 0, kk, []⟩, p.fr .nil) (kk + 1)) := Lib.hid (by rw [HE.out, suf_some hb])
        have hk1 := hf.toks.sign hkk (behindK_ne hb)
        rw [hb] at LK
        simp only [Option.getD_some, Option.isSome_some] at LK
        simp only [wfullx] at TK
        clear hb
        go_wp2_with fail
        refine wp_region_ext (by kernel_rfl) (by kernel_rfl) ?_
        repeat (first | go_big_quiet_step (first | (go_at_call 244; with_reducible exact Calls.ext_of (SG.out _))))
        refine wpQuiet_nil ?_
        intro wd hw'
        obtain ⟨⟨wd', hb9⟩, e9⟩ := hw'
        obtain rfl : wd = wd' := e9
        have B9 := Lib.hid hb9
        clear hb9 LK d3
        go_wp2_with (first | (go_at_call 149; (with_reducible refine (TK.out _ B9.out).mono ?_); rintro e w3 ⟨rfl, hg, hR⟩; have G3 := Lib.hid (grown_trans (grown_on HG.out B9.out) hg); have R3 := Lib.hid hR; have P3 := Lib.hid (show PtAt w3 w.heap.size c.l p q from FrAt.grown (FrAt.below HP.out B9.out) hg bw.out); clear hg hR) | (go_at_call 268; (with_reducible refine (over_any w.heap.size c.l K kk q p w3 G3.out.size P3.out).mono ?_); rintro e w4 ⟨q4, rfl, hb, hP⟩; have G4 := Lib.hid (grown_on G3.out hb); have R4 := Lib.hid (R3.out.below hf hb); have P4 := Lib.hid hP; clear hb hP))
        go_roundw
        case rel => exact ⟨_, q4, kk + 1, g, hk1, rfl, P4.out, R4.out, G4.out, by omega, RE2.out⟩
        case measure => rw [R4.out.pos, PB]; omega
end Go.Proofs.YtfghfnpiaccfaaaGreatDoor
namespace Go.Proofs.YtfghfnpiaccfaaaGreatDoor
open Go Go.RowKit Go.Maps
theorem PPost.lift {c : Cx} {d : Nat} {r : Rs Pn} {w w1 : World} {e : Ending} {w2 : World} (hg : w.grownBy w1 (some c.b)) (hp : PPost c d r w1 e w2) : PPost c d r w e w2 := by
  obtain ⟨hg2, hp⟩ := hp
  refine ⟨grown_trans hg hg2, ?_⟩
  cases r with
  | ok p j => obtain ⟨q, h1, h2, h3⟩ := hp; exact ⟨q, h1, h2, FrAt.lower hg.size h3⟩
  | no e j => exact hp
set_option maxRecDepth 100000 in
theorem alt_of (c : Cx) (d : Nat) (R : Rs Pn) (w : World) (h : Calls Tryz.prog 205 #[.pointer (some ⟨c.b, 0, none⟩), .int .i64 7, .func (.func 206) #[.pointer (some ⟨c.b, 0, none⟩)] #[], .func (.func 207) #[.pointer (some ⟨c.b, 0, none⟩)] #[]] w (PPost c d R w)) :
    Calls Tryz.prog 151 #[.pointer (some ⟨c.b, 0, none⟩)] w (PPost c d R w) := by
  have CA := Lib.hid (h.mono fun e w2 hp => hp.two)
  generalize (PPost c d R w) = PO at CA ⊢
  clear h
  go_enter Tryz.func151, Tryz.ntmps151
  go_wp2_with (go_at_call 205; (with_reducible refine CA.out.mono ?_); rintro e w2 ⟨⟨a, b, rfl⟩, hp⟩; have HP := Lib.hid hp; clear hp)
  exact HP.out
set_option maxRecDepth 100000 in
theorem seq_of (c : Cx) (d : Nat) (R : Rs Pn) (w : World) (h : Calls Tryz.prog 205 #[.pointer (some ⟨c.b, 0, none⟩), .int .i64 6, .func (.func 245) #[.pointer (some ⟨c.b, 0, none⟩)] #[], .func (.func 246) #[.pointer (some ⟨c.b, 0, none⟩)] #[]] w (PPost c d R w)) :
    Calls Tryz.prog 206 #[.pointer (some ⟨c.b, 0, none⟩)] w (PPost c d R w) := by
  have CA := Lib.hid (h.mono fun e w2 hp => hp.two)
  generalize (PPost c d R w) = PO at CA ⊢
  clear h
  go_enter Tryz.func206, Tryz.ntmps206
  go_wp2_with (go_at_call 205; (with_reducible refine CA.out.mono ?_); rintro e w2 ⟨⟨a, b, rfl⟩, hp⟩; have HP := Lib.hid hp; clear hp)
  exact HP.out
set_option maxRecDepth 100000 in
set_option maxHeartbeats 2000000 in
theorem item_any (c : Cx) (hf : c.Fine) (d : Nat) (it al : Nat → Rs Pn) (k : Nat) (hk : k ≤ c.N) (hd : d ≤ 500) (hA : AlOk c d al k)
    (hI : k + 1 ≤ c.N → ∀ W, RdR c (k + 1) d W → Calls Tryz.prog 245 #[.pointer (some ⟨c.b, 0, none⟩)] W (PPost c d (it (k + 1)) W)) (w : World) (h : RdR c k d w) :
    Calls Tryz.prog 245 #[.pointer (some ⟨c.b, 0, none⟩)] w (PPost c d (itm (tkn c.l) c.N it al d k) w) := by
  have bw := Lib.hid h.blk.lt
  have LK := fun (e : Ext w) => look_ah c hf hk h e
  have SG := Lib.hid (fun (e : Ext w) => lsign_any c hf k d hk e.val (h.below hf e.grown))
  have c2 := h.blk.cell 2
  simp only [Cx.cells, List.getElem?_toArray, List.getElem?_cons_zero, List.getElem?_cons_succ] at c2
  have d2 := fun (e : Ext w) => Ext.cell c2 e
  generalize bsv (sgk (tkn c.l) k) = S at LK SG
  cases ho : aheadK (sgk (tkn c.l) k) with
  | none =>
    have RE : itm (tkn c.l) c.N it al d k = sufd (tkn c.l) c.N (prim (tkn c.l) al d k) := by unfold itm; rw [ho]
    rw [RE]
    have CA := Lib.hid (fun W (hb : Below w.heap.size w W) => (suffixed_any c hf d al k hk hd hA W (h.below hf hb)).mono fun e w2 hp => (hp.lift (below_is_grown hb _)).two)
    rw [ho] at LK
    simp only [Option.getD_none, Option.isSome_none] at LK
    generalize (PPost c d (sufd (tkn c.l) c.N (prim (tkn c.l) al d k)) w) = PO at CA ⊢
    clear h c2 ho hI hA RE
    go_enter Tryz.func245, Tryz.ntmps245
    go_wp2_with fail
    refine wp_region_ext (by kernel_rfl) (by kernel_rfl) ?_
    repeat (first | go_big_quiet_step (first | (go_at_call 244; with_reducible exact Calls.ext_of (SG.out _))))
    refine wpQuiet_nil ?_
    intro wd hw'
    obtain ⟨⟨wd', hb9⟩, e9⟩ := hw'
    obtain rfl : wd = wd' := e9
    have B9 := Lib.hid hb9
    clear hb9 LK d2
    go_wp2_with (go_at_call 267; (with_reducible refine (CA.out _ B9.out).mono ?_); rintro e w2 ⟨⟨a, b, rfl⟩, hp⟩; have HP := Lib.hid hp; clear hp)
    exact HP.out
  | some K =>
    have hk1 := hf.toks.sign hk (aheadK_ne ho)
    have TK := Lib.hid (fun W (hb : Below w.heap.size w W) => ltake_any c hf k d hk W (h.below hf hb))
    simp only [wfullx] at TK
    have IT := Lib.hid (hI hk1)
    rw [ho] at LK
    simp only [Option.getD_some, Option.isSome_some] at LK
    cases hi : it (k + 1) with
    | no er j =>
      have RE : RowKit.Hid (itm (tkn c.l) c.N it al d k = .no er j) := Lib.hid (by unfold itm; rw [ho]; simp only [hi])
      generalize itm (tkn c.l) c.N it al d k = RR at RE ⊢
      rw [hi] at IT
      clear h c2 ho hI hA hi
      go_enter Tryz.func245, Tryz.ntmps245
      go_wp2_with fail
      refine wp_region_ext (by kernel_rfl) (by kernel_rfl) ?_
      repeat (first | go_big_quiet_step (first | (go_at_call 244; with_reducible exact Calls.ext_of (SG.out _))))
      refine wpQuiet_nil ?_
      intro wd hw'
      obtain ⟨⟨wd', hb9⟩, e9⟩ := hw'
      obtain rfl : wd = wd' := e9
      have B9 := Lib.hid hb9
      clear hb9 LK d2
      go_wp2_with (first | (go_at_call 149; (with_reducible refine (TK.out _ B9.out).mono ?_); rintro e w3 ⟨rfl, hg, hR⟩; have G3 := Lib.hid (grown_trans (below_is_grown B9.out (some c.b)) hg); have R3 := Lib.hid hR; clear hg hR) | (go_at_call 245; (with_reducible refine (IT.out _ R3.out).mono ?_); rintro e w4 hp; have QQ := hp.no_; obtain ⟨hg, rfl, hX⟩ := QQ; have G4 := Lib.hid (grown_trans G3.out hg); have X4 := Lib.hid hX; clear hp hg hX))
      go_ret2
      rw [RE.out]
      exact ⟨G4.out, rfl, X4.out⟩
    | ok p j =>
      have RE : RowKit.Hid (itm (tkn c.l) c.N it al d k = .ok (⟨K, no, [], 0, k, []⟩, p.fr .nil) j) := Lib.hid (by unfold itm; rw [ho]; simp only [hi])
      generalize itm (tkn c.l) c.N it al d k = RR at RE ⊢
      rw [hi] at IT
      clear h c2 ho hI hA hi
      go_enter Tryz.func245, Tryz.ntmps245
      go_wp2_with fail
      refine wp_region_ext (by kernel_rfl) (by kernel_rfl) ?_
      repeat (first | go_big_quiet_step (first | (go_at_call 244; with_reducible exact Calls.ext_of (SG.out _))))
      refine wpQuiet_nil ?_
      intro wd hw'
      obtain ⟨⟨wd', hb9⟩, e9⟩ := hw'
      obtain rfl : wd = wd' := e9
      have B9 := Lib.hid hb9
      clear hb9 LK d2
      go_wp2_with (first | (go_at_call 149; (with_reducible refine (TK.out _ B9.out).mono ?_); rintro e w3 ⟨rfl, hg, hR⟩; have G3 := Lib.hid (grown_trans (below_is_grown B9.out (some c.b)) hg); have R3 := Lib.hid hR; clear hg hR) | (go_at_call 245; (with_reducible refine (IT.out _ R3.out).mono ?_); rintro e w4 hp; have QQ := hp.ok; obtain ⟨hg, q, rfl, hR, hP⟩ := QQ; have G4 := Lib.hid (grown_trans G3.out hg); have R4 := Lib.hid hR; have P4 := Lib.hid (show PtAt w4 w.heap.size c.l p q from FrAt.lower G3.out.size hP); clear hp hg hR hP) | (go_at_call 268; (with_reducible refine (over_any w.heap.size c.l K k q p w4 G4.out.size P4.out).mono ?_); rintro e w5 ⟨q5, rfl, hb, hP⟩; have G5 := Lib.hid (grown_on G4.out hb); have R5 := Lib.hid (R4.out.below hf hb); have P5 := Lib.hid hP; clear hb hP))
      go_ret2
      rw [RE.out]
      exact ⟨G5.out, q5, rfl, R5.out, P5.out⟩
theorem begins_grown (c : Cx) (hf : c.Fine) (d j : Nat) (hj : j ≤ c.N) (W : World) (hW : RdR c j d W) :
    Calls Tryz.prog 246 #[.pointer (some ⟨c.b, 0, none⟩)] W fun e w' => e = .returned (.bool (begins (tkn c.l) j).isSome) ∧ W.grownBy w' (some c.b) ∧ RdR c ((begins (tkn c.l) j).getD j) d w' := by
  refine (begins_any c hf j d hj W hW).mono fun e w' ⟨he, hb⟩ => ⟨he, below_is_grown hb _, ?_⟩
  have : (begins (tkn c.l) j).getD j = j := by unfold begins; split <;> rfl
  rw [this]
  exact hW.below hf hb
def fnOf : Nat → FuncId
  | 1 => 245
  | 2 => 206
  | _ => 151
/-- The reader reads as prs says. -/
theorem prs_any (c : Cx) (hf : c.Fine) : ∀ (f m d k : Nat), 1 ≤ m → m ≤ 3 → d ≤ 500 → k ≤ c.N → 4 * (c.N + 1 - k) + m ≤ f → ∀ w, RdR c k d w → Calls Tryz.prog (fnOf m) #[.pointer (some ⟨c.b, 0, none⟩)] w (PPost c d (prs (tkn c.l) c.N f m d k) w)
  | 0, m, d, k, h1, _, _, _, hn => by omega
  | f + 1, m, d, k, h1, h3, hd, hk, hn => fun w h => by
    have IH := prs_any c hf f
    have LT := prs_lt (tk := tkn c.l) hf.toks f
    match m, h1, h3, hn with
    | 1, _, _, hn =>
      rw [prs1]
      exact item_any c hf d (prs (tkn c.l) c.N f 1 d) (prs (tkn c.l) c.N f 3 (d + 1)) k hk hd ⟨fun k p j => LT 3 (d + 1) k p j, fun hd5 j hj hjN W hW => IH 3 (d + 1) j (by omega) (by omega) (by omega) hjN (by omega) W hW⟩
        (fun hk1 W hW => IH 1 d (k + 1) (by omega) (by omega) hd hk1 (by omega) W hW) w h
    | 2, _, _, hn =>
      rw [prs2]
      exact seq_of c d _ w (sev_seq c hf d (prs (tkn c.l) c.N f 1 d) (begins (tkn c.l)) (fun k p j => LT 1 d k p j) begins_le k hk (fun j hj hjN W hW => IH 1 d j (by omega) (by omega) hd hjN (by omega) W hW) (fun j hj W hW => begins_grown c hf d j hj W hW) w h)
    | 3, _, _, hn =>
      rw [prs3]
      exact alt_of c d _ w (sev_alt c hf d (prs (tkn c.l) c.N f 2 d) (slash (tkn c.l)) (fun k p j => LT 2 d k p j) (slash_le hf.toks) k hk (fun j hj hjN W hW => IH 2 d j (by omega) (by omega) hd hjN (by omega) W hW) (fun j hj W hW => slash_any c hf j d hj W hW) w h)
theorem alt_any (c : Cx) (hf : c.Fine) (k : Nat) (hk : k ≤ c.N) (w : World) (h : RdR c k 0 w) : Calls Tryz.prog 151 #[.pointer (some ⟨c.b, 0, none⟩)] w (PPost c 0 (alt (tkn c.l) c.N k) w) :=
  prs_any c hf (4 * (c.N + 2)) 3 0 k (by omega) (by omega) (by omega) hk (by omega) w h
end Go.Proofs.YtfghfnpiaccfaaaGreatDoor
namespace Go.Proofs.YtfghfnpiaccfaaaGreatDoor
open Go Go.RowKit Go.Maps
theorem str60 : Str ⟨#[60, 45]⟩ [60, 45] := rfl
theorem str59 : Str ⟨#[59]⟩ [59] := rfl
/-- How the reading of a rule ends. -/
def RPost (c : Cx) (r : Rs Ru) (w : World) (e : Ending) (w' : World) : Prop :=
  w.grownBy w' (some c.b) ∧ match r with
    | .ok u j => ∃ q, e = .returned (.tuple #[.agg #[.string (bsv u.name), .int .i64 (beg c.l u.at_ : Nat), .pointer (some ⟨q, 0, none⟩)], .bool true]) ∧ RdR c j 0 w' ∧ PtAt w' w.heap.size c.l u.body q
    | .no er j => e = .returned (.tuple #[.agg #[.string ⟨#[]⟩, .int .i64 0, .pointer none], .bool false]) ∧ RdX c er (beg c.l j) w'
theorem RdX.apart {c : Cx} {er a : Int} {w w' : World} {r : Nat} (h : RdX c er a w) (hg : w.grownBy w' (some r)) (hr : c.b < r) : RdX c er a w' := by
  obtain ⟨k, d, hb⟩ := h
  exact ⟨k, d, hb.grown hg (fun e => by have := Option.some.inj e; omega)⟩
theorem PtAt.apart {w w' : World} {lo r q : Nat} {l : List Nat} {p : Pn} (h : PtAt w lo l p q) (hg : w.grownBy w' (some r)) (hr : r < lo) : PtAt w' lo l p q := FrAt.grown h hg hr
set_option maxRecDepth 100000 in
set_option maxHeartbeats 4000000 in
theorem rule_any (c : Cx) (hf : c.Fine) (k : Nat) (hk : k ≤ c.N) (w : World) (h : RdR c k 0 w) :
    Calls Tryz.prog 93 #[.pointer (some ⟨c.b, 0, none⟩)] w (RPost c (rul (tkn c.l) c.N k) w) := by
  have bw := Lib.hid h.blk.lt
  have HN : c.N ≤ 16384 := Nat.le_trans hf.n hf.size
  obtain ⟨w0, e0⟩ : ∃ u, u = w.alloc (.cells #[.string ⟨#[]⟩, .int .i64 0, .pointer none] 160) := ⟨_, rfl⟩
  obtain ⟨rb, erb⟩ : ∃ u, u = w.heap.size := ⟨_, rfl⟩
  have K0 : RowKit.Hid (Blk w0 rb #[.string ⟨#[]⟩, .int .i64 0, .pointer none] 160) := Lib.hid (by rw [e0, erb]; exact Blk.new _ _ _)
  have B0 : RowKit.Hid (Below w.heap.size w w0) := Lib.hid (by rw [e0]; exact B1 _ _)
  have RB : RowKit.Hid (rb = w.heap.size) := Lib.hid erb
  have LB : RowKit.Hid (c.b < rb) := Lib.hid (by rw [erb]; exact h.blk.lt)
  have H0 := Lib.hid (h.below hf B0.out)
  have CM := comes_any c hf k 0 hk 2 w0 H0.out
  have WD := Lib.hid (fun W (hb : Below w0.heap.size w0 W) => lword_any c hf k 0 hk W (H0.out.below hf hb))
  have WR := Lib.hid (fun W (hb : Below w0.heap.size w0 W) => wrong_any c hf k 0 hk 7 W (H0.out.below hf hb))
  have TK := Lib.hid (fun W (hb : Below w0.heap.size w0 W) => ltake_any c hf k 0 hk W (H0.out.below hf hb))
  simp only [wfullx] at WD TK
  obtain ⟨x, ex⟩ : ∃ x, x = tkn c.l k := ⟨_, rfl⟩
  obtain ⟨p0, ep⟩ : ∃ p, p = beg c.l k := ⟨_, rfl⟩
  rw [← ex] at CM
  rw [← ex, ← ep] at WD TK
  have RU : RowKit.Hid (rul (tkn c.l) c.N k = if x.kind ≠ 2 ∨ 0 ≤ x.lev then .no 7 k else if sgk (tkn c.l) (k + 1) ≠ [60, 45] then .no 7 (k + 1) else match alt (tkn c.l) c.N (k + 2) with | .no e j => .no e j | .ok p j => if sgk (tkn c.l) j = [59] then .ok ⟨x.text, k, p⟩ (j + 1) else .no 7 j) := Lib.hid (by rw [ex]; rfl)
  generalize rul (tkn c.l) c.N k = RR at RU ⊢
  have EP := Lib.hid ep
  have hk1 : x.kind = 2 → k + 1 ≤ c.N := fun hx => hf.toks.next hk (by rw [← ex, hx]; decide)
  obtain ⟨z, ez⟩ : ∃ z : Nat, z = p0 + x.len := ⟨_, rfl⟩
  rw [← ez] at WD TK
  clear h ex ep ez
  by_cases z2 : x.kind = 2
  · have z2b : (x.kind == 2) = true := by rw [z2]; rfl
    rw [z2b] at CM
    have CH := Lib.hid CM
    clear CM
    by_cases z3 : 0 ≤ x.lev
    · have RE : RowKit.Hid (RR = .no 7 k) := Lib.hid (by rw [RU.out, if_pos (.inr z3)])
      clear RU z2 z2b TK
      go_enter Tryz.func93, Tryz.ntmps93
      go_wp2_with fail
      rw [← e0, ← erb]
      clear e0 erb
      go_wp2_with (first | (go_at_call 92; (with_reducible refine CH.out.mono ?_); rintro e w1 ⟨rfl, hb⟩; have HB1 := Lib.hid hb; clear hb) | (go_at_call 147; (with_reducible refine (WD.out _ HB1.out).mono ?_); rintro e w2 ⟨rfl, hb⟩; have HB2 := Lib.hid (bb HB1.out hb); clear hb) | (go_at_call 148; (with_reducible refine (WR.out _ HB2.out).mono ?_); rintro e w3 ⟨rfl, hg, hX⟩; have G3 := Lib.hid (grown_trans (below_is_grown (bb B0.out HB2.out) (some c.b)) hg); have X3 := Lib.hid hX; have K3 := Lib.hid ((K0.out.below' HB2.out).grown hg (by have := LB.out; simp; omega)); clear hg hX) | (refine wpList_store_whole rfl 160 (.tmp 2) (.tmp 22) rfl rb #[.string ⟨#[]⟩, .int .i64 0, .pointer none] rfl rfl 160 _ K3.out (by kernel_rfl) (by rfl) (by simp [Value.oneCell']) ?_; intro w4 hk4 hg4; have K4 := Lib.hid hk4; have G4 := Lib.hid (grown_new G3.out hg4 (by have := RB.out; omega)); have X4 := Lib.hid (X3.out.apart hg4 LB.out); clear hk4 hg4))
      rw [RE.out]
      exact bodyPost_ret (results_cell_tmp rfl _ _ rb 160 _ _ _ rfl rfl K4.out Tryz.underlying160 rfl (by kernel_rfl)) rfl ⟨G4.out, rfl, X4.out⟩
    · have z3b : ¬ 0 ≤ x.lev := z3
      have z3c : x.lev < 0 := by omega
      have hk1' := hk1 z2
      have MU := Lib.hid (fun W hW => must_any c hf (k + 1) 0 hk1' _ _ str60 W hW)
      by_cases z4 : sgk (tkn c.l) (k + 1) = [60, 45]
      · have hk2 := hf.toks.sign hk1' (by rw [z4]; simp)
        have AL := Lib.hid (fun W hW => alt_any c hf (k + 2) hk2 W hW)
        simp only [z4, ne_eq, not_true, true_and, false_and, or_false] at MU
        cases ha : alt (tkn c.l) c.N (k + 2) with
        | no er j =>
          have RE : RowKit.Hid (RR = .no er j) := Lib.hid (by rw [RU.out, if_neg (by omega), if_neg (by rw [z4]; simp), ha])
          rw [ha] at AL
          clear RU z2 z2b ha z4
          go_enter Tryz.func93, Tryz.ntmps93
          go_wp2_with fail
          rw [← e0, ← erb]
          clear e0 erb
          go_wp2_with (first | (go_at_call 92; (with_reducible refine CH.out.mono ?_); rintro e w1 ⟨rfl, hb⟩; have HB1 := Lib.hid hb; clear hb) | (go_at_call 147; (with_reducible refine (WD.out _ HB1.out).mono ?_); rintro e w2 ⟨rfl, hb⟩; have HB2 := Lib.hid (bb HB1.out hb); clear hb) | (go_at_call 149; (with_reducible refine (TK.out _ HB2.out).mono ?_); rintro e w3 ⟨rfl, hg, hR⟩; have G3 := Lib.hid (grown_trans (below_is_grown (bb B0.out HB2.out) (some c.b)) hg); have R3 := Lib.hid hR; have K3 := Lib.hid (((K0.out.below' HB2.out).grown hg (by have := LB.out; simp; omega)).alloc (.cells wzero 156)); have L3 := Lib.hid K3.out.lt; have S3 := Lib.hid (show w.heap.size < w3.heap.size from by have := ((K0.out.below' HB2.out).grown hg (by have := LB.out; simp; omega)).lt; rw [RB.out] at this; exact this); clear hg hR) | (refine wpList_store_whole rfl 156 (.tmp 4) (.tmp 26) rfl w3.heap.size #[.int .i64 x.kind, .int .i64 p0, .int .i64 z, .string (bsv x.text), .int .i64 x.lev, .int .u64 (cw x.cls 0), .int .u64 (cw x.cls 1), .int .u64 (cw x.cls 2), .int .u64 (cw x.cls 3)] rfl rfl 156 _ (Blk.new w3 wzero 156) (by kernel_rfl) (by rfl) (by simp [Value.oneCell']) ?_; intro w4 hk4 hg4; have T4 := Lib.hid hk4; have G4 := Lib.hid (grown_new (grown_on G3.out (B1 w3 (.cells wzero 156))) hg4 (by have := S3.out; omega)); have R4 := Lib.hid ((R3.out.below hf (B1 w3 (.cells wzero 156))).apart hf hg4 (by have := R3.out.blk.lt; omega)); have K4 := Lib.hid (K3.out.grown hg4 (by have := S3.out; have := RB.out; simp; omega)); clear hk4 hg4) | (go_at_call 150; (with_reducible refine (MU.out _ R4.out).mono ?_); rintro e w5 ⟨hg, rfl, hR⟩; have G5 := Lib.hid (grown_trans G4.out hg); have R5 := Lib.hid (show RdR c (k + 2) 0 w5 from hR); have K5 := Lib.hid (K4.out.grown hg (by have := LB.out; simp; omega)); have T5 := Lib.hid (T4.out.grown hg (by have := LB.out; have := S3.out; have := RB.out; simp; omega)); clear hg hR) | (go_at_call 151; (with_reducible refine (AL.out _ R5.out).mono ?_); rintro e w6 hp; have QQ := hp.no_; obtain ⟨hg, rfl, hX⟩ := QQ; have G6 := Lib.hid (grown_trans G5.out hg); have X6 := Lib.hid hX; have K6 := Lib.hid (K5.out.grown hg (by have := LB.out; simp; omega)); clear hg hX hp) | (refine wpList_store_whole rfl 160 (.tmp 2) (.tmp 43) rfl rb #[.string ⟨#[]⟩, .int .i64 0, .pointer none] rfl rfl 160 _ K6.out (by kernel_rfl) (by rfl) (by simp [Value.oneCell']) ?_; intro w7 hk7 hg7; have K7 := Lib.hid hk7; have G7 := Lib.hid (grown_new G6.out hg7 (by have := RB.out; omega)); have X7 := Lib.hid (X6.out.apart hg7 LB.out); clear hk7 hg7))
          rw [RE.out]
          exact bodyPost_ret (results_cell_tmp rfl _ _ rb 160 _ _ _ rfl rfl K7.out Tryz.underlying160 rfl (by kernel_rfl)) rfl ⟨G7.out, rfl, X7.out⟩
        | ok p j =>
          have hj := prs_lt hf.toks _ _ _ _ _ _ hk2 ha
          rw [ha] at AL
          have MV := Lib.hid (fun W hW => must_any c hf j 0 hj.2 _ _ str59 W hW)
          by_cases z5 : sgk (tkn c.l) j = [59]
          · have RE : RowKit.Hid (RR = .ok ⟨x.text, k, p⟩ (j + 1)) := Lib.hid (by rw [RU.out, if_neg (by omega), if_neg (by rw [z4]; simp), ha]; simp only [if_pos z5])
            simp only [z5, ne_eq, not_true, true_and, false_and, or_false] at MV
            clear RU z2 z2b ha z4 z5
            go_enter Tryz.func93, Tryz.ntmps93
            go_wp2_with fail
            rw [← e0, ← erb]
            clear e0 erb
            go_wp2_with (first | (go_at_call 92; (with_reducible refine CH.out.mono ?_); rintro e w1 ⟨rfl, hb⟩; have HB1 := Lib.hid hb; clear hb) | (go_at_call 147; (with_reducible refine (WD.out _ HB1.out).mono ?_); rintro e w2 ⟨rfl, hb⟩; have HB2 := Lib.hid (bb HB1.out hb); clear hb) | (go_at_call 149; (with_reducible refine (TK.out _ HB2.out).mono ?_); rintro e w3 ⟨rfl, hg, hR⟩; have G3 := Lib.hid (grown_trans (below_is_grown (bb B0.out HB2.out) (some c.b)) hg); have R3 := Lib.hid hR; have K3 := Lib.hid (((K0.out.below' HB2.out).grown hg (by have := LB.out; simp; omega)).alloc (.cells wzero 156)); have L3 := Lib.hid K3.out.lt; have S3 := Lib.hid (show w.heap.size < w3.heap.size from by have := ((K0.out.below' HB2.out).grown hg (by have := LB.out; simp; omega)).lt; rw [RB.out] at this; exact this); clear hg hR) | (refine wpList_store_whole rfl 156 (.tmp 4) (.tmp 26) rfl w3.heap.size #[.int .i64 x.kind, .int .i64 p0, .int .i64 z, .string (bsv x.text), .int .i64 x.lev, .int .u64 (cw x.cls 0), .int .u64 (cw x.cls 1), .int .u64 (cw x.cls 2), .int .u64 (cw x.cls 3)] rfl rfl 156 _ (Blk.new w3 wzero 156) (by kernel_rfl) (by rfl) (by simp [Value.oneCell']) ?_; intro w4 hk4 hg4; have T4 := Lib.hid hk4; have G4 := Lib.hid (grown_new (grown_on G3.out (B1 w3 (.cells wzero 156))) hg4 (by have := S3.out; omega)); have R4 := Lib.hid ((R3.out.below hf (B1 w3 (.cells wzero 156))).apart hf hg4 (by have := R3.out.blk.lt; omega)); have K4 := Lib.hid (K3.out.grown hg4 (by have := S3.out; have := RB.out; simp; omega)); clear hk4 hg4) | (go_at_call 150; (with_reducible refine (MV.out _ R6.out).mono ?_); rintro e w7 ⟨hg, rfl, hR⟩; have G7 := Lib.hid (grown_trans G6.out hg); have R7 := Lib.hid hR; have P7 := Lib.hid (show PtAt w7 w5.heap.size c.l p q from FrAt.grown P6.out hg (by have := bw.out; have := G5.out.size; omega)); have K7 := Lib.hid (K6.out.grown hg (by have := LB.out; simp; omega)); have T7 := T6.out.grown hg (by have := LB.out; have := S3.out; have := RB.out; simp; omega); have k1 := T7.cell 1; have k3 := T7.cell 3; simp only [List.getElem?_toArray, List.getElem?_cons_zero, List.getElem?_cons_succ] at k1 k3; clear hg hR T7) | (go_at_call 150; (with_reducible refine (MU.out _ R4.out).mono ?_); rintro e w5 ⟨hg, rfl, hR⟩; have G5 := Lib.hid (grown_trans G4.out hg); have R5 := Lib.hid (show RdR c (k + 2) 0 w5 from hR); have K5 := Lib.hid (K4.out.grown hg (by have := LB.out; simp; omega)); have T5 := Lib.hid (T4.out.grown hg (by have := LB.out; have := S3.out; have := RB.out; simp; omega)); clear hg hR) | (go_at_call 151; (with_reducible refine (AL.out _ R5.out).mono ?_); rintro e w6 hp; have QQ := hp.ok; obtain ⟨hg, q, rfl, hR, hP⟩ := QQ; have G6 := Lib.hid (grown_trans G5.out hg); have R6 := Lib.hid hR; have P6 := Lib.hid (show PtAt w6 w5.heap.size c.l p q from hP); have K6 := Lib.hid (K5.out.grown hg (by have := LB.out; simp; omega)); have T6 := Lib.hid (T5.out.grown hg (by have := LB.out; have := S3.out; have := RB.out; simp; omega)); clear hp hg hR hP) | (refine wpList_store_whole rfl 160 (.tmp 2) (.tmp 49) rfl rb #[.string (bsv x.text), .int .i64 p0, .pointer (some ⟨q, 0, none⟩)] rfl rfl 160 _ K7.out (by kernel_rfl) (by rfl) (by simp [Value.oneCell']) ?_; intro w8 hk8 hg8; have K8 := Lib.hid hk8; have G8 := Lib.hid (grown_new G7.out hg8 (by have := RB.out; omega)); have R8 := Lib.hid (R7.out.apart hf hg8 LB.out); have P8 := Lib.hid (show PtAt w8 w.heap.size c.l p q from FrAt.lower G5.out.size (FrAt.grown P7.out hg8 (by have := K5.out.lt; exact this))); clear hk8 hg8))
            rw [RE.out]
            have EB := EP.out
            refine bodyPost_ret (results_cell_tmp rfl _ _ rb 160 _ _ _ rfl rfl K8.out Tryz.underlying160 rfl (by kernel_rfl)) rfl ⟨G8.out, q, ?_, R8.out, ?_⟩
            · rw [← EB]; rfl
            · exact P8.out
          · have RE : RowKit.Hid (RR = .no 7 j) := Lib.hid (by rw [RU.out, if_neg (by omega), if_neg (by rw [z4]; simp), ha]; simp only [if_neg z5])
            simp only [z5, ne_eq, not_false_eq_true, true_and, false_and, false_or] at MV
            clear RU z2 z2b ha z4 z5
            go_enter Tryz.func93, Tryz.ntmps93
            go_wp2_with fail
            rw [← e0, ← erb]
            clear e0 erb
            go_wp2_with (first | (go_at_call 92; (with_reducible refine CH.out.mono ?_); rintro e w1 ⟨rfl, hb⟩; have HB1 := Lib.hid hb; clear hb) | (go_at_call 147; (with_reducible refine (WD.out _ HB1.out).mono ?_); rintro e w2 ⟨rfl, hb⟩; have HB2 := Lib.hid (bb HB1.out hb); clear hb) | (go_at_call 149; (with_reducible refine (TK.out _ HB2.out).mono ?_); rintro e w3 ⟨rfl, hg, hR⟩; have G3 := Lib.hid (grown_trans (below_is_grown (bb B0.out HB2.out) (some c.b)) hg); have R3 := Lib.hid hR; have K3 := Lib.hid (((K0.out.below' HB2.out).grown hg (by have := LB.out; simp; omega)).alloc (.cells wzero 156)); have L3 := Lib.hid K3.out.lt; have S3 := Lib.hid (show w.heap.size < w3.heap.size from by have := ((K0.out.below' HB2.out).grown hg (by have := LB.out; simp; omega)).lt; rw [RB.out] at this; exact this); clear hg hR) | (refine wpList_store_whole rfl 156 (.tmp 4) (.tmp 26) rfl w3.heap.size #[.int .i64 x.kind, .int .i64 p0, .int .i64 z, .string (bsv x.text), .int .i64 x.lev, .int .u64 (cw x.cls 0), .int .u64 (cw x.cls 1), .int .u64 (cw x.cls 2), .int .u64 (cw x.cls 3)] rfl rfl 156 _ (Blk.new w3 wzero 156) (by kernel_rfl) (by rfl) (by simp [Value.oneCell']) ?_; intro w4 hk4 hg4; have T4 := Lib.hid hk4; have G4 := Lib.hid (grown_new (grown_on G3.out (B1 w3 (.cells wzero 156))) hg4 (by have := S3.out; omega)); have R4 := Lib.hid ((R3.out.below hf (B1 w3 (.cells wzero 156))).apart hf hg4 (by have := R3.out.blk.lt; omega)); have K4 := Lib.hid (K3.out.grown hg4 (by have := S3.out; have := RB.out; simp; omega)); clear hk4 hg4) | (go_at_call 150; (with_reducible refine (MV.out _ R6.out).mono ?_); rintro e w7 ⟨hg, rfl, hX⟩; have G7 := Lib.hid (grown_trans G6.out hg); have X7 := Lib.hid hX; have K7 := Lib.hid (K6.out.grown hg (by have := LB.out; simp; omega)); clear hg hX) | (go_at_call 150; (with_reducible refine (MU.out _ R4.out).mono ?_); rintro e w5 ⟨hg, rfl, hR⟩; have G5 := Lib.hid (grown_trans G4.out hg); have R5 := Lib.hid (show RdR c (k + 2) 0 w5 from hR); have K5 := Lib.hid (K4.out.grown hg (by have := LB.out; simp; omega)); have T5 := Lib.hid (T4.out.grown hg (by have := LB.out; have := S3.out; have := RB.out; simp; omega)); clear hg hR) | (go_at_call 151; (with_reducible refine (AL.out _ R5.out).mono ?_); rintro e w6 hp; have QQ := hp.ok; obtain ⟨hg, q, rfl, hR, hP⟩ := QQ; have G6 := Lib.hid (grown_trans G5.out hg); have R6 := Lib.hid hR; have P6 := Lib.hid (show PtAt w6 w5.heap.size c.l p q from hP); have K6 := Lib.hid (K5.out.grown hg (by have := LB.out; simp; omega)); have T6 := Lib.hid (T5.out.grown hg (by have := LB.out; have := S3.out; have := RB.out; simp; omega)); clear hp hg hR hP) | (refine wpList_store_whole rfl 160 (.tmp 2) (.tmp 43) rfl rb #[.string ⟨#[]⟩, .int .i64 0, .pointer none] rfl rfl 160 _ K7.out (by kernel_rfl) (by rfl) (by simp [Value.oneCell']) ?_; intro w8 hk8 hg8; have K8 := Lib.hid hk8; have G8 := Lib.hid (grown_new G7.out hg8 (by have := RB.out; omega)); have X8 := Lib.hid (X7.out.apart hg8 LB.out); clear hk8 hg8))
            rw [RE.out]
            exact bodyPost_ret (results_cell_tmp rfl _ _ rb 160 _ _ _ rfl rfl K8.out Tryz.underlying160 rfl (by kernel_rfl)) rfl ⟨G8.out, rfl, X8.out⟩
      · have RE : RowKit.Hid (RR = .no 7 (k + 1)) := Lib.hid (by rw [RU.out, if_neg (by omega), if_pos z4])
        simp only [z4, ne_eq, not_false_eq_true, true_and, false_and, false_or] at MU
        clear RU z2 z2b z4
        go_enter Tryz.func93, Tryz.ntmps93
        go_wp2_with fail
        rw [← e0, ← erb]
        clear e0 erb
        go_wp2_with (first | (go_at_call 92; (with_reducible refine CH.out.mono ?_); rintro e w1 ⟨rfl, hb⟩; have HB1 := Lib.hid hb; clear hb) | (go_at_call 147; (with_reducible refine (WD.out _ HB1.out).mono ?_); rintro e w2 ⟨rfl, hb⟩; have HB2 := Lib.hid (bb HB1.out hb); clear hb) | (go_at_call 149; (with_reducible refine (TK.out _ HB2.out).mono ?_); rintro e w3 ⟨rfl, hg, hR⟩; have G3 := Lib.hid (grown_trans (below_is_grown (bb B0.out HB2.out) (some c.b)) hg); have R3 := Lib.hid hR; have K3 := Lib.hid (((K0.out.below' HB2.out).grown hg (by have := LB.out; simp; omega)).alloc (.cells wzero 156)); have L3 := Lib.hid K3.out.lt; have S3 := Lib.hid (show w.heap.size < w3.heap.size from by have := ((K0.out.below' HB2.out).grown hg (by have := LB.out; simp; omega)).lt; rw [RB.out] at this; exact this); clear hg hR) | (refine wpList_store_whole rfl 156 (.tmp 4) (.tmp 26) rfl w3.heap.size #[.int .i64 x.kind, .int .i64 p0, .int .i64 z, .string (bsv x.text), .int .i64 x.lev, .int .u64 (cw x.cls 0), .int .u64 (cw x.cls 1), .int .u64 (cw x.cls 2), .int .u64 (cw x.cls 3)] rfl rfl 156 _ (Blk.new w3 wzero 156) (by kernel_rfl) (by rfl) (by simp [Value.oneCell']) ?_; intro w4 hk4 hg4; have T4 := Lib.hid hk4; have G4 := Lib.hid (grown_new (grown_on G3.out (B1 w3 (.cells wzero 156))) hg4 (by have := S3.out; omega)); have R4 := Lib.hid ((R3.out.below hf (B1 w3 (.cells wzero 156))).apart hf hg4 (by have := R3.out.blk.lt; omega)); have K4 := Lib.hid (K3.out.grown hg4 (by have := S3.out; have := RB.out; simp; omega)); clear hk4 hg4) | (go_at_call 150; (with_reducible refine (MU.out _ R4.out).mono ?_); rintro e w5 ⟨hg, rfl, hX⟩; have G5 := Lib.hid (grown_trans G4.out hg); have X5 := Lib.hid hX; have K5 := Lib.hid (K4.out.grown hg (by have := LB.out; simp; omega)); clear hg hX) | (refine wpList_store_whole rfl 160 (.tmp 2) (.tmp 30) rfl rb #[.string ⟨#[]⟩, .int .i64 0, .pointer none] rfl rfl 160 _ K5.out (by kernel_rfl) (by rfl) (by simp [Value.oneCell']) ?_; intro w7 hk7 hg7; have K7 := Lib.hid hk7; have G7 := Lib.hid (grown_new G5.out hg7 (by have := RB.out; omega)); have X7 := Lib.hid (X5.out.apart hg7 LB.out); clear hk7 hg7))
        rw [RE.out]
        exact bodyPost_ret (results_cell_tmp rfl _ _ rb 160 _ _ _ rfl rfl K7.out Tryz.underlying160 rfl (by kernel_rfl)) rfl ⟨G7.out, rfl, X7.out⟩
  · have z2b : (x.kind == 2) = false := by simpa using z2
    rw [z2b] at CM
    have CH := Lib.hid CM
    have RE : RowKit.Hid (RR = .no 7 k) := Lib.hid (by rw [RU.out, if_pos (.inl z2)])
    clear CM RU z2 TK
    go_enter Tryz.func93, Tryz.ntmps93
    go_wp2_with fail
    rw [← e0, ← erb]
    clear e0 erb
    go_wp2_with (first | (go_at_call 92; (with_reducible refine CH.out.mono ?_); rintro e w1 ⟨rfl, hb⟩; have HB1 := Lib.hid hb; clear hb) | (go_at_call 148; (with_reducible refine (WR.out _ HB1.out).mono ?_); rintro e w3 ⟨rfl, hg, hX⟩; have G3 := Lib.hid (grown_trans (below_is_grown (bb B0.out HB1.out) (some c.b)) hg); have X3 := Lib.hid hX; have K3 := Lib.hid ((K0.out.below' HB1.out).grown hg (by have := LB.out; simp; omega)); clear hg hX) | (refine wpList_store_whole rfl 160 (.tmp 2) (.tmp 22) rfl rb #[.string ⟨#[]⟩, .int .i64 0, .pointer none] rfl rfl 160 _ K3.out (by kernel_rfl) (by rfl) (by simp [Value.oneCell']) ?_; intro w4 hk4 hg4; have K4 := Lib.hid hk4; have G4 := Lib.hid (grown_new G3.out hg4 (by have := RB.out; omega)); have X4 := Lib.hid (X3.out.apart hg4 LB.out); clear hk4 hg4))
    rw [RE.out]
    exact bodyPost_ret (results_cell_tmp rfl _ _ rb 160 _ _ _ rfl rfl K4.out Tryz.underlying160 rfl (by kernel_rfl)) rfl ⟨G4.out, rfl, X4.out⟩
end Go.Proofs.YtfghfnpiaccfaaaGreatDoor
namespace Go.Proofs.YtfghfnpiaccfaaaGreatDoor
open Go Go.RowKit Go.Maps
/-- The bodies of rules. -/
def bod : List Ru → Fr
  | [] => .nil
  | u :: us => .cons u.body.1 u.body.2 (bod us)
theorem bod_app : ∀ (us : List Ru) (u : Ru), bod (us ++ [u]) = (bod us).app (u.body.fr .nil)
  | [], u => rfl
  | v :: us, u => by simp only [List.cons_append, bod, Fr.app, bod_app us u]
theorem bod_len : ∀ us : List Ru, (bod us).len = us.length
  | [] => rfl
  | u :: us => by simp only [bod, Fr.len, bod_len us, List.length_cons]
def rcell (l : List Nat) (u : Ru) (q : Nat) : List Value := [.string (bsv u.name), .int .i64 (beg l u.at_ : Nat), .pointer (some ⟨q, 0, none⟩)]
/-- The cells of rules whose bodies lie at qs. -/
def rcs (l : List Nat) (us : List Ru) (qs : List Nat) : List Value := (us.zip qs).flatMap fun x => rcell l x.1 x.2
theorem rcs_app (l : List Nat) (us : List Ru) (qs : List Nat) (h : qs.length = us.length) (u : Ru) (q : Nat) : rcs l (us ++ [u]) (qs ++ [q]) = rcs l us qs ++ rcell l u q := by
  unfold rcs
  rw [List.zip_append h.symm]
  simp
theorem rul_lt {c : Cx} (hf : c.Fine) {k : Nat} {u : Ru} {j : Nat} (hk : k ≤ c.N) (e : rul (tkn c.l) c.N k = .ok u j) : k < j ∧ j ≤ c.N := by
  unfold rul at e
  split at e
  · cases e
  · rename_i h0
    split at e
    · cases e
    · rename_i h1
      have h0' : (tkn c.l k).kind = 2 := by simp only [not_or, ne_eq, Decidable.not_not] at h0; exact h0.1
      have g1 := hf.toks.next hk (by rw [h0']; decide)
      have h1' : sgk (tkn c.l) (k + 1) = [60, 45] := by simpa using h1
      have g2 := hf.toks.sign g1 (by rw [h1']; simp)
      split at e
      · cases e
      · rename_i p i e1
        have := prs_lt hf.toks _ _ _ _ _ _ g2 e1
        split at e
        · rename_i hs; cases e; have := hf.toks.sign this.2 (by rw [hs]; simp); omega
        · cases e
theorem RdX.alloc {c : Cx} {er a : Int} {w : World} (h : RdX c er a w) (o : Obj) : RdX c er a (w.alloc o) := by
  obtain ⟨k, d, hb⟩ := h
  exact ⟨k, d, hb.alloc o⟩
def preL (us : List Ru) : Rs (List Ru) → Rs (List Ru)
  | .ok r j => .ok (us ++ r) j
  | .no e j => .no e j
def contG (tk : Nat → Wd) (N g : Nat) (us : List Ru) (k : Nat) : Rs (List Ru) :=
  match us with
  | [] => ruls tk N g k
  | u :: us => if (tk k).kind = 1 then .ok (u :: us) k else preL (u :: us) (ruls tk N g k)
theorem ruls_no {tk : Nat → Wd} {N g k : Nat} {e : Int} {j : Nat} (h : rul tk N k = .no e j) : ruls tk N (g + 1) k = .no e j := by
  conv => lhs; unfold ruls
  rw [h]
theorem ruls_ok {tk : Nat → Wd} {N g k : Nat} {u : Ru} {j : Nat} (h : rul tk N k = .ok u j) : ruls tk N (g + 1) k = contG tk N g [u] j := by
  conv => lhs; unfold ruls
  rw [h]
  simp only [contG]
  split
  · rfl
  · cases ruls tk N g j <;> rfl
theorem preL_contG {tk : Nat → Wd} {N g k : Nat} {us : List Ru} {u : Ru} : preL us (contG tk N g [u] k) = contG tk N g (us ++ [u]) k := by
  cases us with
  | nil => simp only [contG, List.nil_append]; split <;> simp [preL]; cases ruls tk N g k <;> simp [preL]
  | cons v us =>
    simp only [contG, List.cons_append]
    split
    · rfl
    · cases ruls tk N g k <;> simp [preL]
theorem RPost.ok {c : Cx} {u : Ru} {j : Nat} {w : World} {e : Ending} {w' : World} (h : RPost c (.ok u j) w e w') : w.grownBy w' (some c.b) ∧ ∃ q, e = .returned (.tuple #[.agg #[.string (bsv u.name), .int .i64 (beg c.l u.at_ : Nat), .pointer (some ⟨q, 0, none⟩)], .bool true]) ∧ RdR c j 0 w' ∧ PtAt w' w.heap.size c.l u.body q := h
theorem RPost.no_ {c : Cx} {er : Int} {j : Nat} {w : World} {e : Ending} {w' : World} (h : RPost c (.no er j) w e w') : w.grownBy w' (some c.b) ∧ e = .returned (.tuple #[.agg #[.string ⟨#[]⟩, .int .i64 0, .pointer none], .bool false]) ∧ RdX c er (beg c.l j) w' := h
/-- What lies as rules are read. -/
structure SvG (c : Cx) (r : Rs (List Ru)) (w : World) (us : List Ru) (qs : List Nat) (kk g : Nat) (v : Value) (wr : World) : Prop where
  le : kk ≤ c.N
  own : wr.ownsRow w.heap.size 160 3 v us.length (rcs c.l us qs)
  len : qs.length = us.length
  fr : ∀ w', Stay wr c.b v.ownBlock w' → FrAt w' w.heap.size c.l (bod us) qs
  rd : RdR c kk 0 wr
  gr : w.grownBy wr (some c.b)
  fuel : c.N < g + kk
  few : us.length ≤ kk
  res : r = contG (tkn c.l) c.N g us kk
theorem SvG.next {c : Cx} {R : Rs (List Ru)} {w wr w2 w3 w4 : World} {us : List Ru} {qs : List Nat} {kk g j q : Nat} {v v' : Value} {u : Ru} {o : Obj} (hf : c.Fine) (bw : c.b < w.heap.size) (h : SvG c R w us qs kk (g + 1) v wr)
    (hj : us = [] ∨ (tkn c.l kk).kind ≠ 1) (h1 : rul (tkn c.l) c.N kk = .ok u j) (hkj : kk < j) (hjN : j ≤ c.N) (hg2 : wr.grownBy w2 (some c.b)) (hR2 : RdR c j 0 w2) (hP2 : PtAt w2 wr.heap.size c.l u.body q) (hb3 : Below w2.heap.size w2 w3)
    (ho : w4.ownsRow w.heap.size 160 3 v' (us.length + 1) (rcs c.l us qs ++ rcell c.l u q)) (hg4 : (w3.alloc o).grownBy w4 v.ownBlock) (hv : ∀ k, v'.ownBlock = some k → v.ownBlock = some k ∨ (w3.alloc o).heap.size ≤ k) :
    SvG c R w (us ++ [u]) (qs ++ [q]) j g v' w4 := by
  have s2 := hg2.size
  have s3 := hb3.size
  have s4 : w3.heap.size + 1 ≤ w4.heap.size := by have := hg4.size; simpa using this
  have sw := h.gr.size
  have vl : ∀ k, v.ownBlock = some k → w.heap.size ≤ k ∧ k < wr.heap.size := fun k e => h.own.lt k e
  have k24 : ∀ k, k < w2.heap.size → v.ownBlock ≠ some k → w4.heap[k]? = w2.heap[k]? := fun k hk hn => (hg4.block k (by simp; omega) (fun e => hn e.symm)).trans ((Below.heap_alloc w3 o k (by omega)).trans (hb3.block k hk))
  refine ⟨hjN, ?_, by rw [List.length_append, List.length_append, h.len]; rfl, fun w' hS => ?_, ?_, ?_, by have := h.fuel; omega, by rw [List.length_append]; have := h.few; simp; omega, ?_⟩
  · rw [List.length_append, rcs_app c.l us qs h.len]; exact ho
  · rw [bod_app]
    refine FrAt.app (h.fr w' ⟨by have := hS.1; omega, fun k hk hn hv' => ?_⟩) ?_
    · refine (hS.2 k (by omega) hn (fun e => ?_)).trans ((k24 k (by omega) hv').trans (hg2.block k hk (fun e => hn (Option.some.inj e))))
      rcases hv k e with e' | e'
      · exact hv' e'
      · simp at e'; omega
    · refine FrAt.lower (lo := wr.heap.size) sw (FrAt.kept (w := w2) (by have := hS.1; omega) (fun k h1 h2 => ?_) hP2)
      refine (hS.2 k (by omega) (by omega) (fun e => ?_)).trans (k24 k h2 (fun e => by have := (vl k e).2; omega))
      rcases hv k e with e' | e'
      · have := (vl k e').2; omega
      · simp at e'; omega
  · exact ((hR2.below hf hb3).below hf (B1 w3 o)).grownO hf hg4 (fun r e => by have := (vl r e).1; omega)
  · refine ⟨hg4.os.trans (hb3.os.trans (hg2.os.trans h.gr.os)), hg4.tape.trans (hb3.tape.trans (hg2.tape.trans h.gr.tape)), hg4.output.trans (hb3.output.trans (hg2.output.trans h.gr.output)), by omega, fun k hk hn => ?_⟩
    exact (k24 k (by omega) (fun e => by have := (vl k e).1; omega)).trans ((hg2.block k (by omega) hn).trans (h.gr.block k hk hn))
  · rw [h.res]
    cases us with
    | nil => rw [List.nil_append, ← ruls_ok h1]; rfl
    | cons u' us' =>
      have hk1 : (tkn c.l kk).kind ≠ 1 := hj.resolve_left (by simp)
      rw [show contG (tkn c.l) c.N (g + 1) (u' :: us') kk = preL (u' :: us') (ruls (tkn c.l) c.N (g + 1) kk) by simp only [contG, if_neg hk1], ruls_ok h1, preL_contG]
theorem Tryz.infoRule : (Tryz.prog.info? 160).map (fun i => (i.zero, i.size, i.bytes)) = some (some (.agg #[.string ⟨#[]⟩, .int .i64 0, .pointer none]), 3, 32) := by kernel_rfl
/-- How the reading of a grammar ends. -/
def GPost (c : Cx) (r : Rs (List Ru)) (w : World) (e : Ending) (w' : World) : Prop :=
  w.grownBy w' (some c.b) ∧ match r with
    | .ok us _ => ∃ v qs, e = .returned (.tuple #[v, .bool true]) ∧ w'.ownsRow w.heap.size 160 3 v us.length (rcs c.l us qs) ∧ qs.length = us.length ∧ FrAt w' w.heap.size c.l (bod us) qs
    | .no er j => e = .returned (.tuple #[.slice none 0 0, .bool false]) ∧ RdX c er (beg c.l j) w'
set_option maxRecDepth 100000 in
set_option maxHeartbeats 4000000 in
theorem grammar_any (c : Cx) (hf : c.Fine) (w : World) (h : RdR c 0 0 w) :
    Calls Tryz.prog 42 #[.pointer (some ⟨c.b, 0, none⟩)] w (GPost c (ruls (tkn c.l) c.N (c.N + 1) 0) w) := by
  have bw := h.blk.lt
  have HN : c.N ≤ 16384 := Nat.le_trans hf.n hf.size
  have I0 : RowKit.Hid (SvG c (ruls (tkn c.l) c.N (c.N + 1) 0) w [] [] 0 (c.N + 1) (.slice none 0 0) w) := Lib.hid ⟨by omega, World.ownsRow_nil _ _ _ _, rfl, fun _ _ => rfl, h, World.grownBy.refl _ _, by omega, Nat.zero_le _, rfl⟩
  generalize ruls (tkn c.l) c.N (c.N + 1) 0 = R at I0 ⊢
  obtain ⟨i0, hi, ei⟩ := Option.map_eq_some_iff.1 Tryz.infoRule
  simp only [Prod.mk.injEq] at ei
  obtain ⟨hz0, hz1, hz2⟩ := ei
  clear h
  go_enter Tryz.func42, Tryz.ntmps42
  go_wp2_with fail
  go_loopw [4] (fun v wr => ∃ (us : List Ru) (qs : List Nat) (kk g : Nat), SvG c R w us qs kk g v wr) (fun _ wr => c.N + 1 - posOf wr c.b)
  case atStart => exact ⟨[], [], 0, _, I0.out⟩
  case round =>
    obtain ⟨us, qs, kk, g, hI⟩ := hrel
    obtain ⟨A, cap, rfl, hA0, hcap⟩ := own_slice hI.own
    have HI := Lib.hid hI
    have hg1 := hI.fuel
    have hle := hI.le
    obtain ⟨g, rfl⟩ : ∃ g', g = g' + 1 := ⟨g - 1, by omega⟩
    have hul : us.length ≤ 16384 := by have := hI.few; omega
    have PB : posOf wr c.b = kk := hI.rd.pos
    have CM := Lib.hid (comes_any c hf kk 0 hle 1 wr hI.rd)
    have RA := Lib.hid (fun W (hb : Below wr.heap.size wr W) => rule_any c hf kk hle W (hI.rd.below hf hb))
    clear hI hg1
    by_cases h0 : us.length = 0
    · obtain rfl : us = [] := List.eq_nil_of_length_eq_zero h0
      clear h0 CM
      simp only [List.length_nil] at hcap hA0 hul ⊢
      cases hr : rul (tkn c.l) c.N kk with
      | no er j =>
        have RE : RowKit.Hid (R = .no er j) := Lib.hid (by rw [HI.out.res]; exact ruls_no hr)
        rw [hr] at RA
        clear hr
        go_wp2_with (first | (go_at_call 93; (with_reducible refine (RA.out _ (Below.refl _ _)).mono ?_); rintro e w2 hp; have QQ := hp.no_; obtain ⟨hg, rfl, hX⟩ := QQ; have G2 := Lib.hid (grown_trans HI.out.gr hg); have X2 := Lib.hid hX; have L2 := Lib.hid (show c.b < w2.heap.size from by have := G2.out.size; omega); clear hp hg hX) | (refine wpList_store_whole rfl 160 (.tmp 5) (.tmp 20) rfl w2.heap.size #[.string ⟨#[]⟩, .int .i64 0, .pointer none] rfl rfl 160 _ (Blk.new w2 #[.string ⟨#[]⟩, .int .i64 0, .pointer none] 160) (by kernel_rfl) (by rfl) (by simp [Value.oneCell']) ?_; intro w3 hk3 hg3; have G3 := Lib.hid (grown_new (grown_on G2.out (B1 w2 (.cells #[.string ⟨#[]⟩, .int .i64 0, .pointer none] 160))) hg3 (by have := G2.out.size; omega)); have X3 := Lib.hid ((X2.out.alloc (.cells #[.string ⟨#[]⟩, .int .i64 0, .pointer none] 160)).apart hg3 L2.out); clear hk3 hg3))
        go_ret2
        rw [RE.out]
        exact ⟨G3.out, rfl, X3.out⟩
      | ok u j =>
        have hj := rul_lt hf hle hr
        have HR := Lib.hid hr
        rw [hr] at RA
        clear hr
        go_wp2_with (first | (go_at_call 93; (with_reducible refine (RA.out _ (Below.refl _ _)).mono ?_); rintro e w2 hp; have QQ := hp.ok; obtain ⟨hg, q, rfl, hR, hP⟩ := QQ; have G2 := Lib.hid (show wr.grownBy w2 (some c.b) from hg); have R2 := Lib.hid hR; have P2 := Lib.hid (show PtAt w2 wr.heap.size c.l u.body q from FrAt.lower (Nat.le_refl _) hP); have OW := Lib.hid (own_far HI.out.own bw G2.out); clear hp hg hR hP) | (refine wpList_store_whole rfl 160 (.tmp 5) (.tmp 20) rfl w2.heap.size #[.string (bsv u.name), .int .i64 (beg c.l u.at_ : Nat), .pointer (some ⟨q, 0, none⟩)] rfl rfl 160 _ (Blk.new w2 #[.string ⟨#[]⟩, .int .i64 0, .pointer none] 160) (by kernel_rfl) (by rfl) (by simp [Value.oneCell']) ?_; intro w3 hk3 hg3; have B3 := Lib.hid (below_new (B1 w2 (.cells #[.string ⟨#[]⟩, .int .i64 0, .pointer none] 160)) (by simp) hg3 (Nat.le_refl _)); have k0 := hk3.cell 0; have k1 := hk3.cell 1; have k2 := hk3.cell 2; simp only [List.getElem?_toArray, List.getElem?_cons_zero, List.getElem?_cons_succ] at k0 k1 k2; have OW3 := Lib.hid (own_below OW.out B3.out); clear hk3 hg3) | (refine wpList_append_blk rfl (.tmp 24) (.tmp 26) 90 rfl w.heap.size 160 i0 (.agg #[.string ⟨#[]⟩, .int .i64 0, .pointer none]) 3 32 Tryz.underlying90 hi hz0 hz1 hz2 rfl (by decide) (.slice A 0 cap) 0 (rcs c.l [] qs) rfl (own_below OW3.out (B1 _ _)) w3.heap.size 1 1 rfl #[.string (bsv u.name), .int .i64 (beg c.l u.at_ : Nat), .pointer (some ⟨q, 0, none⟩)] (Blk.new w3 _ 160) rfl (by simp [Value.oneCell']) (by decide) (by decide) (by have := G2.out.size; have := HI.out.gr.size; have := B3.out.size; simp; omega) ?_; intro v' w4 ho hg4 hv4; have I4 := Lib.hid (HI.out.next hf bw (.inl rfl) HR.out hj.1 hj.2 G2.out R2.out P2.out B3.out ho hg4 hv4); clear ho hg4 hv4))
        go_roundw
        case rel => exact ⟨_, _, j, g, I4.out⟩
        case measure => rw [I4.out.rd.pos, PB]; omega
    · have hn1 : ((us.length : Int) == 0) = false := by simpa using h0
      by_cases h1 : (tkn c.l kk).kind = 1
      · have h1b : ((tkn c.l kk).kind == 1) = true := by rw [h1]; rfl
        rw [h1b] at CM
        have RE : RowKit.Hid (R = .ok us kk) := Lib.hid (by
          rw [HI.out.res]
          cases us with
          | nil => simp at h0
          | cons u us => simp only [contG, if_pos h1])
        clear h0 h1 h1b
        go_wp2_with (go_at_call 92; (with_reducible refine CM.out.mono ?_); rintro e w1 ⟨rfl, hb⟩; have HB := Lib.hid hb; clear hb)
        go_ret2
        rw [RE.out]
        exact ⟨grown_on HI.out.gr HB.out, _, qs, rfl, own_below HI.out.own HB.out, HI.out.len, HI.out.fr w1 ⟨HB.out.size, fun k hk _ _ => HB.out.block k hk⟩⟩
      · have h1b : ((tkn c.l kk).kind == 1) = false := by simpa using h1
        rw [h1b] at CM
        have H1 := Lib.hid h1
        cases hr : rul (tkn c.l) c.N kk with
        | no er j =>
          have RE : RowKit.Hid (R = .no er j) := Lib.hid (by
            rw [HI.out.res]
            cases us with
            | nil => simp at h0
            | cons u us => simp only [contG, if_neg h1]; rw [ruls_no hr]; rfl)
          rw [hr] at RA
          clear hr h0 h1 h1b
          go_wp2_with (first | (go_at_call 92; (with_reducible refine CM.out.mono ?_); rintro e w1 ⟨rfl, hb⟩; have HB := Lib.hid hb; clear hb) | (go_at_call 93; (with_reducible refine (RA.out _ HB.out).mono ?_); rintro e w2 hp; have QQ := hp.no_; obtain ⟨hg, rfl, hX⟩ := QQ; have G2 := Lib.hid (grown_trans (grown_on HI.out.gr HB.out) hg); have X2 := Lib.hid hX; have L2 := Lib.hid (show c.b < w2.heap.size from by have := G2.out.size; omega); clear hp hg hX) | (refine wpList_store_whole rfl 160 (.tmp 5) (.tmp 20) rfl w2.heap.size #[.string ⟨#[]⟩, .int .i64 0, .pointer none] rfl rfl 160 _ (Blk.new w2 #[.string ⟨#[]⟩, .int .i64 0, .pointer none] 160) (by kernel_rfl) (by rfl) (by simp [Value.oneCell']) ?_; intro w3 hk3 hg3; have G3 := Lib.hid (grown_new (grown_on G2.out (B1 w2 (.cells #[.string ⟨#[]⟩, .int .i64 0, .pointer none] 160))) hg3 (by have := G2.out.size; omega)); have X3 := Lib.hid ((X2.out.alloc (.cells #[.string ⟨#[]⟩, .int .i64 0, .pointer none] 160)).apart hg3 L2.out); clear hk3 hg3))
          go_ret2
          rw [RE.out]
          exact ⟨G3.out, rfl, X3.out⟩
        | ok u j =>
          have hj := rul_lt hf hle hr
          have HR := Lib.hid hr
          rw [hr] at RA
          clear hr h0 h1 h1b
          go_wp2_with (first | (go_at_call 92; (with_reducible refine CM.out.mono ?_); rintro e w1 ⟨rfl, hb⟩; have HB := Lib.hid hb; clear hb) | (go_at_call 93; (with_reducible refine (RA.out _ HB.out).mono ?_); rintro e w2 hp; have QQ := hp.ok; obtain ⟨hg, q, rfl, hR, hP⟩ := QQ; have G2 := Lib.hid (show wr.grownBy w2 (some c.b) from grown_trans (below_is_grown HB.out (some c.b)) hg); have R2 := Lib.hid hR; have P2 := Lib.hid (show PtAt w2 wr.heap.size c.l u.body q from FrAt.lower HB.out.size hP); have OW := Lib.hid (own_far HI.out.own bw G2.out); clear hp hg hR hP) | (refine wpList_store_whole rfl 160 (.tmp 5) (.tmp 20) rfl w2.heap.size #[.string (bsv u.name), .int .i64 (beg c.l u.at_ : Nat), .pointer (some ⟨q, 0, none⟩)] rfl rfl 160 _ (Blk.new w2 #[.string ⟨#[]⟩, .int .i64 0, .pointer none] 160) (by kernel_rfl) (by rfl) (by simp [Value.oneCell']) ?_; intro w3 hk3 hg3; have B3 := Lib.hid (below_new (B1 w2 (.cells #[.string ⟨#[]⟩, .int .i64 0, .pointer none] 160)) (by simp) hg3 (Nat.le_refl _)); have k0 := hk3.cell 0; have k1 := hk3.cell 1; have k2 := hk3.cell 2; simp only [List.getElem?_toArray, List.getElem?_cons_zero, List.getElem?_cons_succ] at k0 k1 k2; have OW3 := Lib.hid (own_below OW.out B3.out); clear hk3 hg3) | (refine wpList_append_blk rfl (.tmp 24) (.tmp 26) 90 rfl w.heap.size 160 i0 (.agg #[.string ⟨#[]⟩, .int .i64 0, .pointer none]) 3 32 Tryz.underlying90 hi hz0 hz1 hz2 rfl (by decide) (.slice A us.length cap) us.length (rcs c.l us qs) rfl (own_below OW3.out (B1 _ _)) w3.heap.size 1 1 rfl #[.string (bsv u.name), .int .i64 (beg c.l u.at_ : Nat), .pointer (some ⟨q, 0, none⟩)] (Blk.new w3 _ 160) rfl (by simp [Value.oneCell']) (by unfold maxLen; omega) (by omega) (by have := G2.out.size; have := HI.out.gr.size; have := B3.out.size; simp; omega) ?_; intro v' w4 ho hg4 hv4; have I4 := Lib.hid (HI.out.next hf bw (.inr H1.out) HR.out hj.1 hj.2 G2.out R2.out P2.out B3.out ho hg4 hv4); clear ho hg4 hv4))
          go_roundw
          case rel => exact ⟨_, _, j, g, I4.out⟩
          case measure => rw [I4.out.rd.pos, PB]; omega
end Go.Proofs.YtfghfnpiaccfaaaGreatDoor

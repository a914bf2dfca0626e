/- A rule more, whose body is a Star over a node's own nodes: plainly. Nothing here speaks of a program. -/
import Derived.Test.YtjelgmdjmjnnfaaX7
import Derived.Test.YtjelgmdjmjnnfaaG1
import Derived.Test.YtjelgmdjmjnnfaaX8
import Derived.Test.YtjelgmdjmjnnfaaB2
import Derived.Test.YtjelgmdjmjnnfaaG2
set_option linter.unusedSimpArgs false
set_option linter.unusedVariables false
namespace Go.Proofs.Ytjelgmdjmjnnfaa
open Go Go.RowKit Go.Maps
theorem star_eq (b : List Nd) : ofL 8 [b] = { leafN 8 with kids := [1] } :: b.map (mvk 1) := by
  simp [ofL, ofN, mvk, leafN, Nd.zero]
theorem star_blo {b : List Nd} {R h : Int} (hb : Blo b R h) : Blo (ofL 8 [b]) R (h + 1) := by
  obtain ⟨p, ok, ms, M, m0⟩ := hb
  have hu := M.kidsUp
  have h0 := M 0 (by omega) p
  rw [m0] at h0
  rw [star_eq]
  have hlen : ({ leafN 8 with kids := [1] } :: b.map (mvk 1)).length = b.length + 1 := by simp
  have hat : ∀ j, ({ leafN 8 with kids := [1] } :: b.map (mvk 1)).getD (j + 1) Nd.zero = mvk 1 (b.getD j Nd.zero) := fun j => by
    show (b.map (mvk 1)).getD j Nd.zero = _
    rw [getD_map_mvk]
  refine ⟨by simp, fun j hj => ?_, fun m => if m = 0 then ((b.length : Int) + 1, h + 1) else ms (m - 1), fun m _ hm => ?_, by rw [hlen]; rfl⟩
  · rw [hlen] at hj
    match j with
    | 0 => rw [nodeOk_iff]; simp [NodeIs, leafN, Nd.zero, ByteArray.toList_eq]
    | j + 1 => rw [hat j, nodeOk_mvk]; exact ok j (by omega)
  · rw [hlen] at hm ⊢
    match m with
    | 0 =>
      refine ⟨by simp; omega, by simp; omega, by show ((0 : Nat) : Int) + ((b.length : Int) + 1) ≤ ((b.length + 1 : Nat) : Int); omega, ?_⟩
      show climb (b.length + 1) _ [1] 1 0 = _
      simp only [climb]
      simp only [show (1 : Int).toNat = 1 from rfl, show (1 : Nat) ≠ 0 by decide, if_false, if_true, Nat.sub_self]
      rw [if_pos ⟨trivial, by omega⟩, m0]
      simp only [Option.some.injEq, Prod.mk.injEq]
      omega
    | q + 1 =>
      obtain ⟨a1, a2, a3, a4⟩ := M q (by omega) (by omega)
      simp only [show q + 1 ≠ 0 by omega, if_false, Nat.add_sub_cancel]
      refine ⟨a1, a2, by omega, ?_⟩
      have hk : kidsOf ({ leafN 8 with kids := [1] } :: b.map (mvk 1)) (q + 1) = (kidsOf b q).map (· + 1) := by
        unfold kidsOf
        rw [hat q]
        rfl
      have := climb_shift (len := b.length) (len' := b.length + 1) (ms := ms) (ms' := fun m => if m = 0 then ((b.length : Int) + 1, h + 1) else ms (m - 1)) (d := 1) (kidsOf b q) (q + 1) 0 _ _ (fun k hk => by
        have := hu q (by omega) k hk
        refine ⟨by omega, ?_⟩
        have e1 : (k + 1).toNat ≠ 0 := by omega
        have e3 : (k + 1).toNat - 1 = k.toNat := by omega
        simp only [e1, if_false, e3]) a4
      rw [hk, show (((q + 1 : Nat) : Int) + 1) = (q : Int) + 1 + 1 by omega, this]
      simp only [Option.some.injEq, Prod.mk.injEq, and_true]
      omega
/-- Its name. -/
def moreN : ByteArray := ⟨#[95, 109, 111, 114, 101]⟩
def blkOf (g : Gr) (c s : Nat) : List Nd := (((g.nodes.drop c).take s).map Nd.kz).map (mvk (-(c : Int)))
structure MoreX (g X : Gr) (c s : Nat) : Prop where
  rules : X.rules = g.rules ++ [⟨moreN, g.nodes.length⟩]
  nodes : X.nodes.map Nd.kz = g.nodes.map Nd.kz ++ (ofL 8 [blkOf g c s]).map (mvk (g.nodes.length : Int))
theorem blkOf_len {g : Gr} {c s : Nat} (h : c + s ≤ g.nodes.length) : (blkOf g c s).length = s := by simp [blkOf]; omega
theorem MoreX.len {g X : Gr} {c s : Nat} (x : MoreX g X c s) (h : c + s ≤ g.nodes.length) : X.nodes.length = g.nodes.length + 1 + s := by
  have := congrArg List.length x.nodes
  rw [star_eq] at this
  simp only [List.length_map, List.length_append, List.length_cons, blkOf_len h] at this
  omega
theorem MoreX.rlen {g X : Gr} {c s : Nat} (x : MoreX g X c s) : X.rules.length = g.rules.length + 1 := by rw [x.rules]; simp
theorem MoreX.front {g X : Gr} {c s : Nat} (x : MoreX g X c s) {t : Nat} (ht : t < g.nodes.length) : (X.nodes.getD t Nd.zero).kz = (g.nodes.getD t Nd.zero).kz := by
  rw [← kz_getD, x.nodes, getD_app_left (by simpa using ht), kz_getD]
theorem MoreX.star {g X : Gr} {c s : Nat} (x : MoreX g X c s) : (X.nodes.getD g.nodes.length Nd.zero).kz = { leafN 8 with kids := [1 + (g.nodes.length : Int)] } := by
  rw [← kz_getD, x.nodes, getD_app_right (by simp), List.length_map, Nat.sub_self, star_eq]
  rfl
theorem MoreX.back {g X : Gr} {c s : Nat} (x : MoreX g X c s) (h : c + s ≤ g.nodes.length) {t : Nat} (ht : t < s) : (X.nodes.getD (g.nodes.length + 1 + t) Nd.zero).kz = mvk (((g.nodes.length + 1 : Nat) : Int) - c) (g.nodes.getD (c + t) Nd.zero).kz := by
  rw [← kz_getD, x.nodes, getD_app_right (by simp; omega), List.length_map, show g.nodes.length + 1 + t - g.nodes.length = t + 1 by omega, star_eq, getD_map_mvk]
  show mvk _ (((blkOf g c s).map (mvk 1)).getD t Nd.zero) = _
  rw [getD_map_mvk]
  unfold blkOf
  rw [getD_map_mvk, kz_getD]
  have e : ((g.nodes.drop c).take s).getD t Nd.zero = g.nodes.getD (c + t) Nd.zero := by
    simp only [List.getD_eq_getElem?_getD, List.getElem?_take, if_pos ht, List.getElem?_drop]
  rw [e]
  unfold mvk
  simp only [List.map_map]
  congr 1
  apply List.map_congr_left
  intro k _
  simp only [Function.comp]
  omega
theorem nodeOk_more {x : Nd} {r : Int} (h : nodeOk x r = true) : nodeOk x (r + 1) = true := by
  rw [nodeOk_iff] at h ⊢
  unfold NodeIs at h ⊢
  rcases h with h | h | h | h | h | h
  · exact .inl h
  · exact .inr (.inl h)
  · exact .inr (.inr (.inl h))
  · exact .inr (.inr (.inr (.inl ⟨h.1, h.2.1, h.2.2.1, ⟨h.2.2.2.1.1, by have := h.2.2.2.1.2.1; omega, h.2.2.2.1.2.2⟩, h.2.2.2.2⟩)))
  · exact .inr (.inr (.inr (.inr (.inl h))))
  · exact .inr (.inr (.inr (.inr (.inr h))))
theorem rl_app_left {l l' : List Rl} {j : Nat} (h : j < l.length) : (l ++ l').getD j Rl.zero = l.getD j Rl.zero := by
  simp only [List.getD]; rw [List.getElem?_append_left h]
theorem names_apart {l : List Rl} (h : Named l) {i j : Nat} (hi : i < l.length) (hj : j < i) : (l.getD j Rl.zero).name ≠ (l.getD i Rl.zero).name := by
  intro e
  have h1 := (h i hi).2
  have h2 := (h j (by omega)).2
  rw [e, h1] at h2
  omega
theorem ruleFrom_neg (s : ByteArray) : ∀ (l : List Rl) (i : Nat), ruleFrom s i l < 0 → ∀ j, j < l.length → (l.getD j Rl.zero).name ≠ s
  | [], _, _, j, hj => by simp at hj
  | r :: l, i, h, j, hj => by
    unfold ruleFrom at h
    split at h
    · omega
    · rename_i hn
      match j with
      | 0 => simpa using hn
      | j + 1 =>
        have := ruleFrom_neg s l (i + 1) h j (by simpa using hj)
        simpa using this
theorem more_named {l : List Rl} {b : Int} (h : Named l) (hn : ruleAt l moreN < 0) : Named (l ++ [⟨moreN, b⟩]) := by
  intro i hi
  have hl : (l ++ [(⟨moreN, b⟩ : Rl)]).length = l.length + 1 := by simp
  rw [hl] at hi
  by_cases e : i < l.length
  · rw [rl_app_left e]
    refine ⟨(h i e).1, ruleAt_hit i (fun j hj => ?_) (by omega) (by rw [rl_app_left e])⟩
    rw [rl_app_left (by omega)]
    exact names_apart h e hj
  · obtain rfl : i = l.length := by omega
    have e2 : (l ++ [(⟨moreN, b⟩ : Rl)]).getD l.length Rl.zero = ⟨moreN, b⟩ := by simp [List.getD]
    rw [e2]
    refine ⟨by show nameOk moreN.data.toList = true; decide, ruleAt_hit l.length (fun j hj => ?_) (by omega) (by rw [e2])⟩
    rw [rl_app_left hj]
    exact ruleFrom_neg moreN l 0 hn j hj
theorem more_right {g X : Gr} {c s : Nat} (hR : Right g) {ms : Nat → Meas} (hm : Measured g.nodes ms 0) (hc : c < g.nodes.length) (hs : (ms c).1 = s) (x : MoreX g X c s) (h1 : g.rules.length < 32) (h2 : ruleAt g.rules moreN < 0) (h3 : (ms c).2 ≤ 15) (h4 : g.nodes.length + 1 + s ≤ 2048) : Right X := by
  have hcs : c + s ≤ g.nodes.length := by have := (hm c (by omega) hc).2.2.1; omega
  rw [← right_kz]
  have hlen : X.kz.nodes.length = g.nodes.length + 1 + s := by show (X.nodes.map Nd.kz).length = _; rw [List.length_map]; exact x.len hcs
  have hbl := star_blo (part_blo hR hm hs hc)
  change Blo (ofL 8 [blkOf g c s]) _ _ at hbl
  have hblen : (ofL 8 [blkOf g c s]).length = s + 1 := by rw [star_eq]; simp [blkOf_len hcs]
  obtain ⟨_, hok, msb, hMb, hb0⟩ := hbl
  have hM : Measured (g.nodes.map Nd.kz) ms 0 := by
    intro m a b
    rw [List.length_map] at b ⊢
    have := hm m a b
    rw [climb_kz]
    exact this
  have hA := measured_app hM hMb
  rw [List.length_map] at hA
  obtain ⟨ms', hm', hbd⟩ := hR.pre
  have hms : ∀ m, m < g.nodes.length → ms' m = ms m := measured_eq hm' hm
  have hbd2 : bodies g.nodes.length ms g.rules 0 = some (g.nodes.length : Int) := by
    refine bodies_grow (Nat.le_refl _) (fun m hl => ⟨(hm' m (by omega) hl).1, (hms m hl).symm⟩) g.rules 0 _ (by omega) hbd
  refine ⟨by show 1 ≤ X.rules.length ∧ X.rules.length ≤ 32; rw [x.rlen]; omega, by rw [hlen]; exact h4, by show Named X.rules; rw [x.rules]; exact more_named hR.named h2, fun i hi => ?_, _, by show Measured (X.nodes.map Nd.kz) _ 0; rw [x.nodes]; exact hA, ?_⟩
  · rw [hlen] at hi
    show nodeOk ((X.nodes.map Nd.kz).getD i Nd.zero) X.rules.length = true
    rw [x.nodes, x.rlen]
    push_cast
    by_cases e : i < g.nodes.length
    · rw [getD_app_left (by simpa using e), kz_getD, nodeOk_kz]
      exact nodeOk_more (hR.all i e)
    · rw [getD_app_right (by simp; omega), List.length_map, getD_map_mvk, nodeOk_mvk]
      exact nodeOk_more (hok (i - g.nodes.length) (by omega))
  · show bodies X.kz.nodes.length _ X.rules 0 = some (X.kz.nodes.length : Int)
    rw [x.rules, hlen]
    have hg := bodies_grow (len := g.nodes.length) (len' := g.nodes.length + 1 + s) (ms := ms) (ms' := fun m => if m < g.nodes.length then ms m else msb (m - g.nodes.length)) (by omega) (fun m hl => ⟨(hm m (by omega) hl).1, by simp only [if_pos hl]⟩) g.rules 0 _ (by omega) hbd2
    have hsn := bodies_snoc (g.nodes.length + 1 + s) (fun m => if m < g.nodes.length then ms m else msb (m - g.nodes.length)) ⟨moreN, g.nodes.length⟩ g.rules 0 _ hg
    have e0 : (if ((g.nodes.length : Int).toNat) < g.nodes.length then ms ((g.nodes.length : Int).toNat) else msb ((g.nodes.length : Int).toNat - g.nodes.length)) = (((s + 1 : Nat) : Int), (ms c).2 + 1) := by
      rw [Int.toNat_natCast, if_neg (Nat.lt_irrefl _), Nat.sub_self, hb0, hblen]
    simp only [] at hsn
    rw [e0] at hsn
    rw [if_pos ⟨trivial, by omega, by show (ms c).2 + 1 ≤ 16; omega⟩] at hsn
    rw [hsn]
    simp only [Option.some.injEq]
    push_cast
    omega
/-- The front's nodes may as they may. -/
theorem may_front {l l' : List Nd} (up : KidsUp l) (up' : KidsUp l') (hl : l.length ≤ l'.length) (same : ∀ t, t < l.length → (l'.getD t Nd.zero).kz = (l.getD t Nd.zero).kz) {inn inn' : Int → Bool} (hi : ∀ t, t < l.length → (l.getD t Nd.zero).kind = 5 → inn' (l.getD t Nd.zero).rule = inn (l.getD t Nd.zero).rule) :
    ∀ (d n : Nat), n < l.length → l.length - n ≤ d → mayN l' inn' n = mayN l inn n
  | 0, n, hn, hd => by omega
  | d + 1, n, hn, hd => by
    rw [mayN_eq up' inn' (by omega) (by omega), mayN_eq up inn (by omega) (by omega), Int.toNat_natCast, ← step_kz, same n hn, step_kz]
    refine stepMay_congr (fun k hk => ?_) (hi n hn)
    have := up n hn k hk
    obtain ⟨j, rfl⟩ : ∃ j : Nat, k = j := ⟨k.toNat, by omega⟩
    exact may_front up up' hl same hi d j (by omega) (by omega)
theorem call_rule {g : Gr} (hR : Right g) {t : Nat} (ht : t < g.nodes.length) (hk : (g.nodes.getD t Nd.zero).kind = 5) : 0 ≤ (g.nodes.getD t Nd.zero).rule ∧ (g.nodes.getD t Nd.zero).rule < g.rules.length :=
  (kinds (hR.all t ht)).2.2 hk
theorem more_rk {g X : Gr} {c s : Nat} (hR : Right g) (hX : Right X) (x : MoreX g X c s) (hcs : c + s ≤ g.nodes.length) : ∀ (k i : Nat), i < g.rules.length → (rk X k).getD i 0 = (rk g k).getD i 0
  | 0, i, _ => by rw [rk_zero, rk_zero]
  | k + 1, i, hi => by
    rw [rk_next X k i (by rw [x.rlen]; omega), rk_next g k i hi, more_rk hR hX x hcs k i hi]
    have e : comB X (rk X k) i = comB g (rk g k) i := by
      unfold comB
      have h1 : inB (rk X k) i = inB (rk g k) i := by
        unfold inB
        rw [Int.toNat_natCast, more_rk hR hX x hcs k i hi]
      rw [h1]
      congr 1
      have hb := hR.body i hi
      rw [x.rules, rl_app_left hi]
      obtain ⟨q, hq⟩ : ∃ q : Nat, (g.rules.getD i Rl.zero).body = q := ⟨(g.rules.getD i Rl.zero).body.toNat, by omega⟩
      rw [hq]
      refine may_front hR.kidsUp hX.kidsUp (by rw [x.len hcs]; omega) (fun t ht => x.front ht) (fun t ht hk => ?_) g.nodes.length q (by omega) (by omega)
      have := call_rule hR ht hk
      unfold inB
      rw [more_rk hR hX x hcs k _ (by omega)]
    rw [e]
theorem more_inB {g X : Gr} {c s : Nat} (hR : Right g) (hX : Right X) (x : MoreX g X c s) (hcs : c + s ≤ g.nodes.length) {i : Int} (h0 : 0 ≤ i) (h1 : i < g.rules.length) : inB (ranks X) i = inB (ranks g) i := by
  unfold inB
  have : (ranks X).getD i.toNat 0 = (ranks g).getD i.toNat 0 := by
    rw [← rk_past g]
    unfold ranks
    rw [x.rlen]
    exact more_rk hR hX x hcs _ _ (by omega)
  rw [this]
theorem more_may {g X : Gr} {c s : Nat} (hR : Right g) (hX : Right X) (x : MoreX g X c s) (hcs : c + s ≤ g.nodes.length) {n : Nat} (hn : n < g.nodes.length) : mayN X.nodes (inB (ranks X)) n = mayN g.nodes (inB (ranks g)) n :=
  may_front hR.kidsUp hX.kidsUp (by rw [x.len hcs]; omega) (fun t ht => x.front ht) (fun t ht hk => by have := call_rule hR ht hk; exact more_inB hR hX x hcs this.1 this.2) g.nodes.length n hn (by omega)
theorem more_idle {g X : Gr} {c s : Nat} (hR : Right g) (hX : Right X) (x : MoreX g X c s) (hcs : c + s ≤ g.nodes.length) {m : Nat} (hm : m < g.nodes.length) : idleB X m = idleB g m := by
  unfold idleB
  rw [rightB_true.2 hR, rightB_true.2 hX, Int.toNat_natCast]
  have hl := x.len hcs
  rw [decide_eq_true (show (0 : Int) ≤ m ∧ (m : Int) < X.nodes.length by omega), decide_eq_true (show (0 : Int) ≤ m ∧ (m : Int) < g.nodes.length by omega)]
  simp only [Bool.true_and]
  unfold idleN
  have hk : (X.nodes.getD m Nd.zero).kind = (g.nodes.getD m Nd.zero).kind := by
    exact (show (X.nodes.getD m Nd.zero).kz.kind = (g.nodes.getD m Nd.zero).kz.kind by rw [x.front hm])
  have hk0 : kid0 (X.nodes.getD m Nd.zero) = kid0 (g.nodes.getD m Nd.zero) := by
    exact (show kid0 (X.nodes.getD m Nd.zero).kz = kid0 (g.nodes.getD m Nd.zero).kz by rw [x.front hm])
  rw [hk, hk0]
  cases hr : repB (g.nodes.getD m Nd.zero).kind with
  | false => rfl
  | true =>
    simp only [Bool.true_and]
    have := kid0_in hR m hm hr
    obtain ⟨q, hq⟩ : ∃ q : Nat, kid0 (g.nodes.getD m Nd.zero) = q := ⟨(kid0 (g.nodes.getD m Nd.zero)).toNat, by omega⟩
    rw [hq]
    exact more_may hR hX x hcs (by omega)
theorem more_star {g X : Gr} {c s : Nat} (hR : Right g) (hX : Right X) (x : MoreX g X c s) {ms : Nat → Meas} (hm : Measured g.nodes ms 0) (hc : c < g.nodes.length) (hs : (ms c).1 = s) : idleB X g.nodes.length = nodeB g c := by
  have hcs : c + s ≤ g.nodes.length := by have := (hm c (by omega) hc).2.2.1; omega
  have hs1 : 1 ≤ s := by have := (hm c (by omega) hc).1; omega
  have hl := x.len hcs
  rw [nodeB_of hR c hc]
  unfold idleB
  rw [rightB_true.2 hX, Int.toNat_natCast, decide_eq_true (show (0 : Int) ≤ g.nodes.length ∧ (g.nodes.length : Int) < X.nodes.length by omega)]
  simp only [Bool.true_and]
  unfold idleN
  have hk : (X.nodes.getD g.nodes.length Nd.zero).kind = 8 := congrArg Nd.kind x.star
  have hk0 : kid0 (X.nodes.getD g.nodes.length Nd.zero) = ((g.nodes.length + 1 + 0 : Nat) : Int) := by
    have := congrArg kid0 x.star
    refine Eq.trans this ?_
    show (1 + (g.nodes.length : Int)) = _
    omega
  rw [hk, hk0, show repB 8 = true by rfl, Bool.true_and]
  have sh : Shf g.nodes X.nodes c s (g.nodes.length + 1) := ⟨hR.kidsUp, hX.kidsUp, hcs, by omega, fun t ht => x.back hcs ht, fun t ht k hk => by
    have := kids_in hm (n := c) (m := c + t) hc (by omega) (by rw [hs]; omega) hk
    rw [hs] at this
    exact ⟨by omega, by omega⟩⟩
  rw [sh.may (inB (ranks X)) s 0 (by omega) (by omega), Nat.add_zero]
  exact may_front hR.kidsUp hR.kidsUp (Nat.le_refl _) (fun t _ => rfl) (fun t ht hk => by have := call_rule hR ht hk; exact more_inB hR hX x hcs this.1 this.2) g.nodes.length c hc (by omega)
end Go.Proofs.Ytjelgmdjmjnnfaa
namespace Go.Proofs.Ytjelgmdjmjnnfaa
open Go Go.RowKit Go.Maps
theorem own_away {W W' : World} {B B' e e' z z' n n' : Nat} {v v' : Value} {xs xs' : List Value} (h : W.ownsRow B e z v n xs) (h' : W.ownsRow B' e' z' v' n' xs') (hT : e ≠ e') (hg : W.grownBy W' v'.ownBlock) : W'.ownsRow B e z v n xs := by
  refine own_kept h (fun k hk => hg.block k (h.lt k hk).2 (fun e2 => ?_))
  obtain ⟨vs, k1, _⟩ := own_blkT h hk
  obtain ⟨vs2, k2, _⟩ := own_blkT h' (b := k) (by first | exact e2 | exact e2.symm)
  exact hT (k1.same_T k2)
theorem blk_away {W W' : World} {b B' T e' z' n' : Nat} {vs : Array Value} {v' : Value} {xs' : List Value} (h : Blk W b vs T) (h' : W.ownsRow B' e' z' v' n' xs') (hT : T ≠ e') (hg : W.grownBy W' v'.ownBlock) : Blk W' b vs T := by
  refine (hg.block b h.lt (fun e2 => ?_)).trans h
  obtain ⟨vs2, k2, _⟩ := own_blkT h' (b := b) (by first | exact e2 | exact e2.symm)
  exact hT (h.same_T k2)
theorem Fresh.addRule {W W' : World} {B : Nat} {X : Gr} {r : Rl} {A' : Option Addr} {c' : Nat} (f : Fresh W B X) (ho : W'.ownsRow B 47 2 (.slice A' (X.rules.length + 1) c') (X.rules.length + 1) (rcells X.rules ++ [.string r.name, .int .i64 r.body]))
    (hg : W.grownBy W' (Value.slice X.RA X.rules.length X.rc).ownBlock) (hn : A' = none → c' = 0) : Fresh W' B { X with RA := A', rc := c', rules := X.rules ++ [r] } := by
  refine ⟨?_, own_away f.nodes f.rules (by decide) hg, fun x hx => ⟨own_away (f.kids x hx).1 f.rules (by decide) hg, (f.kids x hx).2⟩, hn, f.nn⟩
  show W'.ownsRow B _ 2 (.slice A' (X.rules ++ [r]).length c') (X.rules ++ [r]).length (rcells (X.rules ++ [r]))
  rw [List.length_append, rcells_app]
  exact ho
theorem Fresh.addNodes {W W' : World} {B : Nat} {X : Gr} {l : List Nd} {A' : Option Addr} {c' : Nat} (f : Fresh W B X) (ho : W'.ownsRow B 41 9 (.slice A' (X.nodes.length + l.length) c') (X.nodes.length + l.length) (ncells X.nodes ++ ncells l))
    (hg : W.grownBy W' (Value.slice X.NA X.nodes.length X.nc).ownBlock) (hn : A' = none → c' = 0) (hk : ∀ x ∈ l, W.ownsRow B 3 1 (.slice x.A x.kids.length x.cap) x.kids.length (ints x.kids) ∧ (x.A = none → x.cap = 0)) : Fresh W' B { X with NA := A', nc := c', nodes := X.nodes ++ l } := by
  refine ⟨own_away f.rules f.nodes (by decide) hg, ?_, fun x hx => ?_, f.rn, hn⟩
  · show W'.ownsRow B _ 9 (.slice A' (X.nodes ++ l).length c') (X.nodes ++ l).length (ncells (X.nodes ++ l))
    rw [List.length_append, ncells_more]
    exact ho
  · rcases List.mem_append.1 hx with hx | hx
    · exact ⟨own_away (f.kids x hx).1 f.nodes (by decide) hg, (f.kids x hx).2⟩
    · exact ⟨own_away (hk x hx).1 f.nodes (by decide) hg, (hk x hx).2⟩
theorem Fresh.offBox {W W' : World} {B xb : Nat} {X : Gr} {vs : Array Value} (f : Fresh W B X) (hb : Blk W xb vs 25) (hg : W.grownBy W' (some xb)) : Fresh W' B X :=
  ⟨own_off f.rules hb (by decide) hg, own_off f.nodes hb (by decide) hg, fun x hx => ⟨own_off (f.kids x hx).1 hb (by decide) hg, (f.kids x hx).2⟩, f.rn, f.nn⟩
/-- What a grammar of the call's own wants besides, to lie. -/
theorem Fresh.at_ {W : World} {B : Nat} {X : Gr} (f : Fresh W B X) (hr : X.rules.length ≤ 1000000) (hn : X.nodes.length ≤ 1000000) (hk : ∀ x ∈ X.nodes, x.kids.length ≤ 1000000 ∧ x.text.size ≤ 9223372036854775807) (hm : ∀ r ∈ X.rules, r.name.size ≤ 9223372036854775807) : Gr.At W X where
  rules := own_rules f.rules
  nodes := own_nodes f.nodes
  kids := fun x hx => ⟨own_lies1 (f.kids x hx).1, (f.kids x hx).2, by have := hk x hx; omega⟩
  rl := by omega
  nl := by omega
  rn := f.rn
  nn := f.nn
  texts := fun x hx => (hk x hx).2
  names := hm
end Go.Proofs.Ytjelgmdjmjnnfaa
namespace Go.Proofs.Ytjelgmdjmjnnfaa
open Go Go.RowKit Go.Maps
/-- Behind one another kids cover all, none higher than the highest. -/
theorem climb_in {len : Nat} {ms : Nat → Meas} (n0 : Nat) (hs : ∀ m : Nat, n0 ≤ m → m < len → 1 ≤ (ms m).1 ∧ 1 ≤ (ms m).2 ∧ m + (ms m).1 ≤ len) : ∀ (r : List Int) (next high top hh : Int), (n0 : Int) ≤ next → climb len ms r next high = some (top, hh) → ∀ m : Int, next ≤ m → m < top → ∃ k : Nat, k < len ∧ n0 ≤ k ∧ (k : Int) ≤ m ∧ m < k + (ms k).1 ∧ (ms k).2 ≤ hh
  | [], next, high, top, hh, _, h, m, h1, h2 => by simp [climb] at h; omega
  | k :: r, next, high, top, hh, hn, h, m, h1, h2 => by
    unfold climb at h
    split at h
    · rename_i hk
      obtain ⟨rfl, hk2⟩ := hk
      obtain ⟨a, ha⟩ : ∃ a : Nat, k = a := ⟨k.toNat, by omega⟩
      subst ha
      rw [Int.toNat_natCast] at h
      have h3 := hs a (by omega) (by omega)
      have hup := climb_up n0 hs r _ _ top hh (by omega) h
      by_cases hm : m < a + (ms a).1
      · exact ⟨a, by omega, by omega, h1, hm, by have := hup.2.1; omega⟩
      · exact climb_in n0 hs r _ _ top hh (by omega) h m (by omega) h2
    · cases h
theorem high_in {l : List Nd} {ms : Nat → Meas} (h : Measured l ms 0) : ∀ (d n : Nat), n < l.length → l.length - n ≤ d → ∀ m : Nat, n ≤ m → (m : Int) < n + (ms n).1 → (ms m).2 ≤ (ms n).2
  | 0, n, hn, hd, _, _, _ => by omega
  | d + 1, n, hn, hd, m, h1, h2 => by
    by_cases e : m = n
    · subst e; omega
    · obtain ⟨a1, a2, a3, a4⟩ := h n (by omega) hn
      obtain ⟨k, k1, k2, k3, k4, k5⟩ := climb_in (n + 1) (fun q hq hl => by have := h q (by omega) hl; omega) _ _ _ _ _ (by omega) a4 m (by omega) h2
      have := high_in h d k k1 (by omega) m (by omega) k4
      omega
theorem bodies_cover {len : Nat} {ms : Nat → Meas} (hs : ∀ m : Nat, m < len → 1 ≤ (ms m).1) : ∀ (l : List Rl) (next top : Int), 0 ≤ next → bodies len ms l next = some top → ∀ m : Int, next ≤ m → m < top → ∃ k : Nat, k < len ∧ (k : Int) ≤ m ∧ m < k + (ms k).1 ∧ (ms k).2 ≤ 16
  | [], next, top, _, h, m, h1, h2 => by simp [bodies] at h; omega
  | r :: l, next, top, h0, h, m, h1, h2 => by
    unfold bodies at h
    split at h
    · rename_i hc
      obtain ⟨_, c2, c3⟩ := hc
      obtain ⟨a, ha⟩ : ∃ a : Nat, next = a := ⟨next.toNat, by omega⟩
      subst ha
      rw [Int.toNat_natCast] at h c3
      by_cases hm : m < a + (ms a).1
      · exact ⟨a, by omega, h1, hm, c3⟩
      · exact bodies_cover hs l _ top (by have := hs a (by omega); omega) h m (by omega) h2
    · cases h
theorem high16 {g : Gr} (hR : Right g) {ms : Nat → Meas} (hm : Measured g.nodes ms 0) {c : Nat} (hc : c < g.nodes.length) : (ms c).2 ≤ 16 := by
  obtain ⟨ms', hm', hb⟩ := hR.pre
  obtain ⟨k, k1, k2, k3, k4⟩ := bodies_cover (fun m hl => (hm' m (by omega) hl).1) g.rules 0 _ (by omega) hb c (by omega) (by omega)
  have := high_in hm' g.nodes.length k k1 (by omega) c (by omega) k3
  rw [measured_eq hm hm' c hc]
  omega
/-- The Star that is put behind. -/
def starN (kb N : Nat) : Nd := { Nd.zero with kind := 8, A := some ⟨kb, 0, none⟩, cap := 1, kids := [(N : Int) + 1] }
theorem moreX_of {g h : Gr} (t : GTwin g h) {c s kb : Nat} {l' l2 : List Nd} {A6 A9 : Option Addr} {c6 c9 : Nat} (m1 : Moved (-(c : Int)) ((g.nodes.drop c).take s) l') (m2 : Moved ((g.nodes.length : Int) + 1) l' l2) :
    MoreX g ⟨A6, c6, g.rules ++ [⟨moreN, g.nodes.length⟩], A9, c9, (h.nodes ++ [starN kb g.nodes.length]) ++ l2⟩ c s := by
  refine ⟨rfl, ?_⟩
  show ((h.nodes ++ [starN kb g.nodes.length]) ++ l2).map Nd.kz = _
  have hz : h.nodes.map Nd.kz = g.nodes.map Nd.kz := by
    have := t.kz
    unfold Gr.kz at this
    simp only [Gr.mk.injEq, true_and] at this
    exact this.2
  rw [List.map_append, List.map_append, hz, m2.kz, m1.kz, star_eq, List.append_assoc]
  congr 1
  show _ :: _ = _ :: _
  congr 1
  · show ({ leafN 8 with kids := [(g.nodes.length : Int) + 1] } : Nd) = { leafN 8 with kids := [1 + (g.nodes.length : Int)] }
    rw [Int.add_comm]
  · show _ = ((blkOf g c s).map (mvk 1)).map (mvk g.nodes.length)
    unfold blkOf
    simp only [List.map_map]
    apply List.map_congr_left
    intro x _
    simp only [Function.comp, mvk, List.map_map]
    congr 1
    apply List.map_congr_left
    intro k _
    simp only [Function.comp]
    omega
theorem moved_in {n : Int} {l l' : List Nd} (m : Moved n l l') (h : ∀ x ∈ l, Nd.In x) : ∀ x ∈ l', Nd.In x := by
  intro x hx
  obtain ⟨i, hi, rfl⟩ := List.mem_iff_getElem.1 hx
  obtain ⟨A, c, e⟩ := m.2 i (by rw [← m.1]; exact hi)
  have h0 := h (l.getD i Nd.zero) (getD_mem (by rw [← m.1]; exact hi))
  have e2 : l'[i] = (l.getD i Nd.zero).mv n A c := by rw [← e, List.getD_eq_getElem?_getD, List.getElem?_eq_getElem hi]; rfl
  rw [e2]
  exact ⟨h0.kind, h0.text⟩
theorem more_in {g h : Gr} (t : GTwin g h) (hi : Gr.In g) {c s kb : Nat} {l' l2 : List Nd} {A6 A9 : Option Addr} {c6 c9 : Nat} {rs : List Rl} {n : Int} (m1 : Moved (-(c : Int)) ((g.nodes.drop c).take s) l') (m2 : Moved n l' l2) :
    Gr.In ⟨A6, c6, rs, A9, c9, (h.nodes ++ [starN kb g.nodes.length]) ++ l2⟩ := by
  intro x hx
  rcases List.mem_append.1 hx with hx | hx
  · rcases List.mem_append.1 hx with hx | hx
    · exact t.within hi x hx
    · simp only [List.mem_singleton] at hx
      subst hx
      exact ⟨by show (-9223372036854775808 : Int) ≤ 8 ∧ (8 : Int) < 9223372036854775808; decide, by show (0 : Nat) ≤ _; omega⟩
  · exact moved_in m2 (moved_in m1 (fun y hy => hi y (List.mem_of_mem_drop (List.mem_of_mem_take hy)))) x hx
/-- When it is not right. -/
theorem more_why {g X : Gr} {c s : Nat} (hR : Right g) (x : MoreX g X c s) (hc : c < g.nodes.length) (hs : (measOf g c).1 = s) (hX : rightB X = false) (h4 : g.nodes.length ≤ 300 ∧ s ≤ 300) : g.rules.length = 32 ∨ 0 ≤ ruleAt g.rules moreN ∨ (measOf g c).2 = 16 := by
  obtain ⟨ms, hm, _⟩ := hR.pre
  rw [measOf_yes hR hm hc] at hs ⊢
  have h16 := high16 hR hm hc
  have hr := hR.rules
  by_cases h1 : g.rules.length = 32
  · exact .inl h1
  · by_cases h2 : 0 ≤ ruleAt g.rules moreN
    · exact .inr (.inl h2)
    · by_cases h3 : (ms c).2 = 16
      · exact .inr (.inr h3)
      · exact absurd (more_right hR hm hc hs x (by omega) (by omega) (by omega) (by omega)) (rightB_false.1 hX)
theorem more_star' {g X : Gr} {c s : Nat} (hR : Right g) (hX : Right X) (x : MoreX g X c s) (hc : c < g.nodes.length) (hs : (measOf g c).1 = s) : idleB X g.nodes.length = nodeB g c := by
  obtain ⟨ms, hm, _⟩ := hR.pre
  rw [measOf_yes hR hm hc] at hs
  exact more_star hR hX x hm hc hs
end Go.Proofs.Ytjelgmdjmjnnfaa

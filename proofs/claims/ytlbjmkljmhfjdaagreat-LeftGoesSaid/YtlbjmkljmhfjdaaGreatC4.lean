/- The marks. -/
import Derived.Test.YtlbjmkljmhfjdaaGreatC3
import Derived.Test.YtlbjmkljmhfjdaaGreatA3
import Derived.Test.YtlbjmkljmhfjdaaGreatB3
set_option linter.unusedSimpArgs false
set_option linter.unusedVariables false
namespace Go.Proofs.YtlbjmkljmhfjdaaGreat
open Go Go.RowKit Go.Maps
theorem mark_any (k i : Int) (hk : 0 ≤ k ∧ k ≤ 1000000) (hi : 0 ≤ i ∧ i ≤ 1000000000) (w : World) : Calls Tryz.prog 184 #[.int .i64 k, .int .i64 i] w fun e w' => e = .returned (.int .i64 (mkN k i)) ∧ w = w' := by
  have w1 : IntKind.i64.wrap (k + 7) = k + 7 := IntWalk.i64_in _ (by omega)
  have w2 : IntKind.i64.wrap (1000003 * (k + 7)) = 1000003 * (k + 7) := IntWalk.i64_in _ (by omega)
  have w3 : IntKind.i64.wrap (1000003 * (k + 7) + i) = 1000003 * (k + 7) + i := IntWalk.i64_in _ (by omega)
  unfold mkN
  clear hk hi
  go_enter Tryz.func184, Tryz.ntmps184
  go_wp2_with fail
  go_ret
  exact ⟨rfl, rfl⟩
end Go.Proofs.YtlbjmkljmhfjdaaGreat
namespace Go.Proofs.YtlbjmkljmhfjdaaGreat
open Go Go.RowKit
/-- What the document's 'after' answers. -/
def afterVal (o : Option Meas) : Value := match o with
  | some (p, h) => .tuple #[.int .i64 p, .int .i64 h]
  | none => .tuple #[.int .i64 (-1), .int .i64 0]
theorem after_hi {l : List Nd} {f : Nat} {n : Int} (h : (l.length : Int) ≤ n) : after l f n = none := by
  cases f with
  | zero => rfl
  | succ f => rw [after, if_neg (by omega)]
set_option maxRecDepth 100000 in
set_option maxHeartbeats 4000000 in
theorem after_any (RA : Option Addr) (lr rc : Nat) (NA : Option Addr) (nc m : Nat) (l : List Nd) (em : m = l.length) (hl : m ≤ 140737488351232) : ∀ (f : Nat) (n : Int) (w : World), f ≤ 1000 → 0 ≤ n → n < 4611686018427387904 → Nodes w NA l → (∀ x ∈ l, Nd.At w x) →
    Calls Tryz.prog 157 #[.agg #[.slice RA lr rc, .slice NA m nc], .int .i64 n, .int .i64 f] w fun e w' => e = .returned (afterVal (after l f n)) ∧ Below w.heap.size w w' := by
  intro f
  induction f with
  | zero =>
    intro n w _ h0 h1 _ _
    have hv : afterVal (after l 0 n) = .tuple #[.int .i64 (-1), .int .i64 0] := rfl
    rw [hv]
    clear hv em h1
    by_cases hn : (m : Int) ≤ n
    · go_enter Tryz.func157, Tryz.ntmps157
      go_wp2_with fail
      go_ret2
      exact ⟨rfl, B1 _ _⟩
    · have hn2 : n < m := by omega
      go_enter Tryz.func157, Tryz.ntmps157
      go_wp2_with fail
      go_ret2
      exact ⟨rfl, B1 _ _⟩
  | succ f ih =>
    intro n w hf h0 h1 hA hk
    by_cases hn : (m : Int) ≤ n
    · have hv : afterVal (after l (f + 1) n) = .tuple #[.int .i64 (-1), .int .i64 0] := by rw [after_hi (by omega)]; rfl
      rw [hv]
      clear hv em ih hA hk h1
      go_enter Tryz.func157, Tryz.ntmps157
      go_wp2_with fail
      go_ret2
      exact ⟨rfl, B1 _ _⟩
    · obtain ⟨i, rfl⟩ : ∃ i : Nat, n = i := ⟨n.toNat, by omega⟩
      have him : i < m := by omega
      have him2 : (i : Int) < m := by omega
      have him3 : ¬ m ≤ i := by omega
      obtain ⟨fl, efl⟩ : ∃ fl : Int, fl = ((f + 1 : Nat) : Int) := ⟨_, rfl⟩
      have hf1 : ¬ fl < 1 := by omega
      have hf2 : (1 : Int) ≤ fl := by omega
      have hfw : IntKind.i64.wrap (fl - 1) = f := (IntWalk.i64_in _ (by omega)).trans (by omega)
      rw [← efl]
      have IH := Lib.hid (fun (n : Int) (w' : World) (h0 : 0 ≤ n) (h1 : n < 4611686018427387904) (b : Below w.heap.size w w') => ih n w' (by omega) h0 h1 (hA.below b) (fun x hx => (hk x hx).below b))
      have CV := Lib.hid (fun (n : Nat) (p h : Int) (e : after l f n = some (p, h)) => after_cover f n p h e)
      obtain ⟨F, eF⟩ : ∃ F, F = after l (f + 1) i := ⟨_, rfl⟩
      have HF : RowKit.Hid (F = afterKids (after l f) (kidsOf l i) (i + 1) 1) := Lib.hid (by rw [eF, after, if_pos (by omega), Int.toNat_natCast])
      rw [← eF]
      have HA := Lib.hid hA
      have hx := hk (l.getD i Nd.zero) (getD_mem (by omega))
      have HXX := Lib.hid hx
      have hkl := hx.2.2
      have EM := Lib.hid em
      have hks : kidsOf l i = (l.getD i Nd.zero).kids := rfl
      rw [hks] at HF
      generalize hxx : l.getD i Nd.zero = x at HF HXX hkl
      have HX := Lib.hid hxx
      clear ih hA hk eF hx em hks hxx hn h1 efl
      go_enter Tryz.func157, Tryz.ntmps157
      go_wp2_with fail
      obtain ⟨wb, ewb⟩ : ∃ u, u = w.alloc (.cells #[.slice RA lr rc, .slice NA m nc] 25) := ⟨_, rfl⟩
      have hb2 : Below w.heap.size w wb := by rw [ewb]; exact B1 _ _
      have KB : RowKit.Hid (Blk wb w.heap.size #[.slice RA lr rc, .slice NA m nc] 25) := Lib.hid (by rw [ewb]; exact Blk.new _ _ _)
      rw [← ewb]
      have BB := Lib.hid hb2
      clear ewb hb2
      go_loopw [10, 8, 9] (fun q nx hg wr => ∃ (j n h : Nat), j ≤ x.kids.length ∧ q = .int .i64 j ∧ nx = .int .i64 n ∧ hg = .int .i64 h ∧ n ≤ m ∧ h ≤ f + 1 ∧ afterKids (after l f) (x.kids.drop j) n h = F ∧ Below wb.heap.size wb wr) (fun q _ _ _ => x.kids.length - (intOf q).toNat)
      case atStart => exact ⟨0, i + 1, 1, by omega, rfl, by go_num, rfl, by omega, by omega, by rw [HF.out]; simp, Below.refl _ _⟩
      case round =>
        obtain ⟨j, n, h, hj, rfl, rfl, rfl, hn1, hh, hcl, hbl⟩ := hrel
        have BL := Lib.hid (bb BB.out hbl)
        have HBL := Lib.hid hbl
        have c0 : wr.cell? ⟨w.heap.size, 0, none⟩ = some (.slice RA lr rc) := (KB.out.below' hbl).cell 0
        have c1 : wr.cell? ⟨w.heap.size, 1, none⟩ = some (.slice NA m nc) := (KB.out.below' hbl).cell 1
        clear hbl
        obtain ⟨b1, o1, eA, _, _, _, _, _, _, _, _, _, c9⟩ := (HA.out.below BL.out).nine (show i < l.length by have := EM.out; omega)
        rw [HX.out] at c9
        rw [eA] at c1
        by_cases hlt : j < x.kids.length
        · have hlt2 : (j : Int) < x.kids.length := by omega
          obtain ⟨bk, ok, ek, _, ck⟩ := lies_cell (HXX.out.below BL.out).1 hlt
          rw [List.drop_eq_getElem_cons hlt] at hcl
          have hgd : x.kids[j] = x.kids.getD j 0 := by simp [List.getD, List.getElem?_eq_getElem hlt]
          rw [hgd] at hcl
          rw [ek] at c9
          generalize x.kids.getD j 0 = kd at hcl ck
          unfold afterKids at hcl
          by_cases hkd : kd = n
          · rw [if_pos hkd] at hcl
            subst hkd
            have IHn := Lib.hid (IH.out n wr (by omega) (by omega) BL.out)
            rw [eA] at IHn
            have hbne : ((n : Int) != n) = false := by simp
            generalize hq : after l f n = q at hcl IHn
            cases q with
            | none =>
              have hcl2 : F = none := hcl.symm
              unfold afterVal at IHn
              have HN := Lib.hid hcl2
              clear hcl hcl2 hgd ek hq eA
              go_wp2_with (go_at_call 157; refine IHn.out.mono ?_; rintro e w2 ⟨rfl, hb⟩; have H1 := Lib.hid (bb BL.out hb); clear hb)
              go_ret2
              exact ⟨by rw [HN.out]; rfl, H1.out⟩
            | some r =>
              obtain ⟨p, hh2⟩ := r
              obtain ⟨v1, v2, v3, v4, _⟩ := CV.out n p hh2 hq
              unfold afterVal at IHn
              dsimp only at hcl IHn
              obtain ⟨p', rfl⟩ : ∃ k : Nat, p = k := ⟨p.toNat, by omega⟩
              obtain ⟨h', hh'⟩ : ∃ k : Nat, (k : Int) = max (h : Int) (1 + hh2) := ⟨(max (h : Int) (1 + hh2)).toNat, by omega⟩
              rw [← hh'] at hcl
              have HCL := Lib.hid hcl
              have HH' := Lib.hid hh'
              have hpm : p' ≤ m := by have := EM.out; omega
              have hp0 : ¬ (p' : Int) < 0 := by omega
              clear hcl hgd hh' ek hq eA
              go_wp2_with (go_at_call 157; refine IHn.out.mono ?_; rintro e w2 ⟨rfl, hb⟩; have H1 := Lib.hid (bb HBL.out hb); clear hb)
              all_goals go_roundw
              all_goals first
                | exact ⟨j + 1, p', h', by omega, by go_num, rfl, by have := HH'.out; simp only [Value.int.injEq, true_and]; omega, by omega, by have := HH'.out; omega, HCL.out, H1.out⟩
                | (simp [intOf]; omega)
          · rw [if_neg hkd] at hcl
            have HN := Lib.hid hcl
            have hb : (kd != (n : Int)) = true := by simpa using hkd
            clear hcl hgd hkd ek eA
            go_wp2_with fail
            go_ret2
            exact ⟨by rw [← HN.out]; rfl, BL.out⟩
        · obtain rfl : j = x.kids.length := by omega
          have hlt2 : ¬ (x.kids.length : Int) < x.kids.length := by omega
          rw [List.drop_length, afterKids] at hcl
          have HN := Lib.hid hcl
          clear hcl eA
          go_wp2_with fail
          go_ret2
          exact ⟨by rw [← HN.out]; rfl, BL.out⟩
end Go.Proofs.YtlbjmkljmhfjdaaGreat

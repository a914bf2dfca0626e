/- Contract of the document's Read, whole. -/
import Derived.Test.YtppnacmgdodjoaaDoorWo
namespace Go.Proofs.YtppnacmgdodjoaaDoor
open Go Go.RowKit Go.Maps
theorem same_drewN {P : Program} {f : FuncId} {args : Array Value} {w : World} {E : Ending} (h : Calls P f args w fun e w' => e = E ∧ w = w') : Calls P f args w fun e w' => e = E ∧ ∃ n, w' = w.drewN n :=
  h.mono fun _ _ ⟨he, hm⟩ => ⟨he, 0, hm.symm⟩
theorem sd_split {q b : Nat} (h : sd q = some b) : (q = 110 ∧ b = 10) ∨ (q = 114 ∧ b = 13) ∨ (q = 116 ∧ b = 9) ∨ (b = q ∧ (q = 92 ∨ q = 34 ∨ q = 93 ∨ q = 45)) := by
  unfold sd at h
  repeat' split at h
  all_goals first
    | (simp only [Option.some.injEq] at h; omega)
    | cases h
theorem sd_rest {q : Nat} (h : sd q = none) : q ≠ 110 ∧ q ≠ 114 ∧ q ≠ 116 ∧ q ≠ 92 ∧ q ≠ 34 ∧ q ≠ 93 ∧ q ≠ 45 := by
  unfold sd at h
  repeat' split at h
  all_goals first
    | (cases h; done)
    | (refine ⟨?_, ?_, ?_, ?_, ?_, ?_, ?_⟩ <;> assumption)
theorem dv_some {c x : Nat} (h : dg c = some x) : dv c = x := by simp [dv, h]
theorem rread_any (s : ByteArray) (l : List Nat) (a p : Int) (hs : Str s l) (hl : l.length ≤ 60000) (w : World) :
    Calls Tryd.prog 21 #[.int .i64 p, .string s, .int .i64 a] w fun e w' => e = RE p a (rst a l) ∧ ∃ n, w' = w.drewN n := by
  have hz := hs.size
  cases hk : kn p with
  | false =>
    rw [RE_none (show rd p (rst a l) = none by rw [rd_three, if_pos hk])]
    exact same_drewN (rread_place s a p hk w)
  | true =>
    rcases rst_cases a l with ⟨e, h1⟩ | ⟨k, rfl, hkl, e⟩
    · rw [e, RE_none rfl]
      exact same_drewN (rread_out s a p hk (by omega) w)
    · rw [e, drop_cons hkl]
      have x0 := hs.atI k k rfl
      generalize l.getD k 0 = c at x0
      have p0 : (0 : Int) ≤ k := by omega
      have b0 : (k : Int) < s.size := by omega
      cases hp : pl p c with
      | true =>
        rw [RE_some (show rd p (c :: l.drop (k + 1)) = some (c, 1) by simp [rd, hk, hp])]
        exact rr_plain s p k c hk p0 b0 x0 _ (IntWalk.i64_in _ (by omega)) hp w
      | false =>
        by_cases h92 : c = 92
        · subst h92
          by_cases h1 : k + 1 < l.length
          · have u1 : IntKind.i64.wrap ((k : Int) + 1) = (k : Int) + 1 := IntWalk.i64_in _ (by omega)
            have u2 : IntKind.i64.wrap ((k : Int) + 2) = (k : Int) + 2 := IntWalk.i64_in _ (by omega)
            have p1 : (0 : Int) ≤ (k : Int) + 1 := by omega
            have b1 : (k : Int) + 1 < s.size := by omega
            have x1 := hs.atI ((k : Int) + 1) (k + 1) (by omega)
            rw [drop_cons h1]
            generalize l.getD (k + 1) 0 = q at x1
            cases hsd : sd q with
            | some b =>
              rw [RE_some (show rd p (92 :: q :: l.drop (k + 1 + 1)) = some (b, 2) by simp [rd, hk, hp, hsd])]
              rcases sd_split hsd with ⟨rfl, rfl⟩ | ⟨rfl, rfl⟩ | ⟨rfl, rfl⟩ | ⟨rfl, rfl | rfl | rfl | rfl⟩
              · exact rr_n s p k hk hp p0 b0 x0 _ _ u1 u2 p1 b1 x1 w
              · exact rr_r s p k hk hp p0 b0 x0 _ _ u1 u2 p1 b1 x1 w
              · exact rr_t s p k hk hp p0 b0 x0 _ _ u1 u2 p1 b1 x1 w
              · exact rr_92 s p k hk hp p0 b0 x0 _ _ u1 u2 p1 b1 x1 w
              · exact rr_34 s p k hk hp p0 b0 x0 _ _ u1 u2 p1 b1 x1 w
              · exact rr_93 s p k hk hp p0 b0 x0 _ _ u1 u2 p1 b1 x1 w
              · exact rr_45 s p k hk hp p0 b0 x0 _ _ u1 u2 p1 b1 x1 w
            | none =>
              by_cases h120 : q = 120
              · subst h120
                have u3 : IntKind.i64.wrap ((k : Int) + 3) = (k : Int) + 3 := IntWalk.i64_in _ (by omega)
                have er : ∀ r, rd p (92 :: 120 :: r) = rx r := fun r => by simp [rd, hk, hp, hsd]
                by_cases h3 : k + 3 < l.length
                · have x2 := hs.atI ((k : Int) + 2) (k + 2) (by omega)
                  have x3 := hs.atI ((k : Int) + 3) (k + 3) (by omega)
                  rw [show k + 1 + 1 = k + 2 from rfl, drop_cons (show k + 2 < l.length by omega), show k + 2 + 1 = k + 3 from rfl, drop_cons h3]
                  generalize l.getD (k + 2) 0 = d1 at x2
                  generalize l.getD (k + 3) 0 = d2 at x3
                  have p2 : (0 : Int) ≤ (k : Int) + 2 := by omega
                  have p3 : (0 : Int) ≤ (k : Int) + 3 := by omega
                  have b2 : (k : Int) + 2 < s.size := by omega
                  have b3 : (k : Int) + 3 < s.size := by omega
                  cases e1 : dg d1 with
                  | none =>
                    rw [RE_none (by rw [er]; simp [rx, e1])]
                    exact rr_x1 s p k hk hp p0 b0 x0 _ _ u1 u2 p1 b1 x1 _ u3 b3 p2 p3 b2 d1 x2 e1 w
                  | some X =>
                    have g1 := dg_lt e1
                    cases e2 : dg d2 with
                    | none =>
                      rw [RE_none (by rw [er]; simp [rx, e1, e2])]
                      exact rr_x2 s p k hk hp p0 b0 x0 _ _ u1 u2 p1 b1 x1 _ u3 b3 p2 p3 b2 d1 x2 d2 x3 X (by omega) (dv_some e1) e2 w
                    | some Y =>
                      have g2 := dg_lt e2
                      rw [RE_some (show rd p (92 :: 120 :: d1 :: d2 :: l.drop (k + 3 + 1)) = some (16 * X + Y, 4) by rw [er]; simp [rx, e1, e2])]
                      exact rr_x3 s p k hk hp p0 b0 x0 _ _ u1 u2 p1 b1 x1 _ u3 b3 p2 p3 b2 d1 x2 d2 x3 _ (IntWalk.i64_in _ (by omega)) X Y (16 * X : Nat) (16 * X + Y : Nat) (by omega) (by omega) ((IntWalk.i64_in _ (by omega)).trans (by omega)) ((IntWalk.i64_in _ (by omega)).trans (by omega)) (u8_in (by omega)) (dv_some e1) (dv_some e2) w
                · have hrx : rx (l.drop (k + 1 + 1)) = none := by
                    have hlen : (l.drop (k + 1 + 1)).length < 2 := by rw [List.length_drop]; omega
                    match l.drop (k + 1 + 1), hlen with
                    | [], _ => rfl
                    | [_], _ => rfl
                    | _ :: _ :: _, h => simp at h; omega
                  rw [RE_none (by rw [er]; exact hrx)]
                  exact rr_xcut s p k hk hp p0 b0 x0 _ _ u1 u2 p1 b1 x1 _ u3 (by omega) w
              · rw [RE_none (by simp [rd, hk, hp, hsd, h120])]
                obtain ⟨n1, n2, n3, n4, n5, n6, n7⟩ := sd_rest hsd
                exact rr_no s p k hk hp p0 b0 x0 _ _ u1 u2 p1 b1 q x1 ⟨n1, n2, n3, n4, n5, n6, n7, h120⟩ w
          · have : l.drop (k + 1) = [] := List.drop_eq_nil_of_le (by omega)
            rw [this, RE_none (by simp [rd, hk, hp])]
            exact rr_cut s p k hk hp p0 b0 x0 _ (IntWalk.i64_in _ (by omega)) (by omega) w
        · rw [RE_none (by simp [rd, hk, hp, h92])]
          exact rr_other s p k c hk p0 b0 x0 hp h92 w
end Go.Proofs.YtppnacmgdodjoaaDoor

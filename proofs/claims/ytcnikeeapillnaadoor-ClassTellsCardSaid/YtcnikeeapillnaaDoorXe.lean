/- Contracts of the document's own answers of layer 1: From. -/
import Derived.Test.YtcnikeeapillnaaDoorXd
import Derived.Test.YtcnikeeapillnaaDoorRw
namespace Go.Proofs.YtcnikeeapillnaaDoor
open Go Go.RowKit

theorem en16 : ∀ args w, (callFunc 16 args).run Tryd.prog w = .ok (.enter 16 args) w := enters_of Tryd.func16 (by kernel_rfl) rfl
theorem Tryd.info25 : (Tryd.prog.info? 25).map (fun i => (i.zero, i.size, i.bytes)) = some (some (.agg #[.int .u64 0, .int .u64 0, .int .u64 0, .int .u64 0]), 4, 32) := by kernel_rfl
/-- One class in a block of its own. -/
def oneSt (t : Nat → Bool) : Stay := ⟨fun v w => ∃ B, v = .slice (some ⟨B, 0, none⟩) 1 1 ∧ Blk w B #[.int .u64 (wd t 0), .int .u64 (wd t 1), .int .u64 (wd t 2), .int .u64 (wd t 3)] 25, fun _ _ _ hb ⟨B, hv, h⟩ => ⟨B, hv, h.below hb h.lt⟩⟩
section
variable {a : Act} {w : World} {o : Oper} {Φ : Value → World → Prop}
theorem g_build1 {x : Operand} {t : Nat → Bool} (ho : o.op = .buildSlice 41 1 #[(0, x)]) (hx : a.eval x = .agg #[.int .u64 (wd t 0), .int .u64 (wd t 1), .int .u64 (wd t 2), .int .u64 (wd t 3)]) :
    Gives Tryd.prog (fun v w' => Below w.heap.size w w' ∧ (oneSt t).holds v w') ((execOp a.eval o).run Tryd.prog w) := by
  refine .value (v := .slice (some ⟨w.heap.size, 0, none⟩) 1 1) (w := w.alloc (.cells #[.int .u64 (wd t 0), .int .u64 (wd t 1), .int .u64 (wd t 2), .int .u64 (wd t 3)] 25)) ?_ ⟨(Below.refl _ _).alloc (Nat.le_refl _) _, _, rfl, Blk.new _ _ _⟩
  generalize a.eval = ρ at *
  simp only [execOp, ho, hx, List.map_toArray, List.map_cons, List.map_nil]
  go_simp
theorem g_index30 {x y : Operand} {b off n cap k : Nat} (hk : k < n) (ho : o.op = .indexAddr 30 x y) (hx : a.eval x = .slice (some ⟨b, off, none⟩) n cap) (hy : a.eval y = .int .i64 k) (h : Φ (.pointer (some ⟨b, off + k * 2, none⟩)) w) :
    Gives Tryd.prog (fun v w' => Below w.heap.size w w' ∧ Φ v w') ((execOp a.eval o).run Tryd.prog w) := by
  refine .value (v := .pointer (some ⟨b, off + k * 2, none⟩)) (w := w) ?_ ⟨Below.refl _ _, h⟩
  have h1 : (k : Int) < (n : Int) := by omega
  generalize a.eval = ρ at *
  simp only [execOp, ho, hx, hy]
  go_simp
theorem g_index38o {x : Operand} {b off : Nat} {k : Nat} (hk : k < 2) (ho : o.op = .indexAddr 38 x (.const (.int .i64 k))) (hx : a.eval x = .pointer (some ⟨b, off, none⟩)) (h : Φ (.pointer (some ⟨b, off + k, none⟩)) w) :
    Gives Tryd.prog (fun v w' => Below w.heap.size w w' ∧ Φ v w') ((execOp a.eval o).run Tryd.prog w) := by
  refine .value (v := .pointer (some ⟨b, off + k, none⟩)) (w := w) ?_ ⟨Below.refl _ _, h⟩
  have hc : a.eval (.const (.int .i64 k)) = .int .i64 k := rfl
  generalize a.eval = ρ at *
  simp only [execOp, ho, hx, hc]
  have hq : k = 0 ∨ k = 1 := by omega
  rcases hq with rfl | rfl <;> go_simp
end
theorem ownsRow_below {w w' : World} {base e size n : Nat} {v : Value} {xs : List Value} (h : w.ownsRow base e size v n xs) (hb : Below w.heap.size w w') : w'.ownsRow base e size v n xs := by
  refine ⟨h.1, ?_⟩
  rcases h.2 with h2 | ⟨g, cap, cur, hv, hg, hh, r⟩
  · exact .inl h2
  · exact .inr ⟨g, cap, cur, hv, hg, (hb.block g (Array.getElem?_eq_some_iff.1 hh).1).trans hh, r⟩
/-- The cells of classes. -/
def ccells (ss : List (Nat → Bool)) : List Value := ss.flatMap fun s => [.int .u64 (wd s 0), .int .u64 (wd s 1), .int .u64 (wd s 2), .int .u64 (wd s 3)]
theorem ccells_app (a b : List (Nat → Bool)) : ccells (a ++ b) = ccells a ++ ccells b := by simp [ccells]
theorem ccells_length (ss : List (Nat → Bool)) : (ccells ss).length = ss.length * 4 := by
  induction ss with
  | nil => rfl
  | cons s ss ih => rw [show s :: ss = [s] ++ ss from rfl, ccells_app, List.length_append, ih]; simp [ccells]; omega
theorem ccells_at (ss : List (Nat → Bool)) (j i : Nat) (hj : j < ss.length) (hi : i < 4) : (ccells ss)[j * 4 + i]? = some (.int .u64 (wd (getS ss j) i)) := by
  have e : ss = ss.take j ++ (getS ss j :: ss.drop (j + 1)) := by
    have : getS ss j = ss[j] := by simp [getS, hj]
    rw [this, ← List.drop_eq_getElem_cons hj, List.take_append_drop]
  have hl : (ccells (ss.take j)).length = j * 4 := by rw [ccells_length, List.length_take]; omega
  generalize getS ss j = s at *
  rw [e, ccells_app, List.getElem?_append_right (by omega), hl, show j * 4 + i - j * 4 = i by omega]
  match i, hi with
  | 0, _ => rfl
  | 1, _ => rfl
  | 2, _ => rfl
  | 3, _ => rfl
theorem ClsAt.of_owns {w : World} {base : Nat} {v : Value} {ss : List (Nat → Bool)} (h : w.ownsRow base 25 4 v ss.length (ccells ss)) : ClsAt w w.heap.size v ss := by
  rcases h.2 with ⟨rfl, h0⟩ | ⟨g, cap, cur, rfl, hb, hg, hn, hm, _⟩
  · exact .inl ⟨rfl, List.length_eq_zero_iff.1 h0⟩
  · exact .inr ⟨g, 0, cap, rfl, (Array.getElem?_eq_some_iff.1 hg).1, by omega, fun j hj i hi => by
      rw [Nat.zero_add, h.cellAt (j * 4 + i) (by omega)]; exact ccells_at ss j i hj hi⟩
def rngs (rs : List (Nat × Nat)) : List (Nat → Bool) := rs.map fun r => rng r.1 (r.2 + 1)
theorem rngs_take (rs : List (Nat × Nat)) (k : Nat) (h : k < rs.length) : rngs (rs.take (k + 1)) = rngs (rs.take k) ++ [rng (rget rs k).1 ((rget rs k).2 + 1)] := by
  unfold rngs
  rw [List.take_succ_eq_append_getElem h, List.map_append]; simp [rget, h]
theorem rngs_length (rs : List (Nat × Nat)) : (rngs rs).length = rs.length := by simp [rngs]
theorem anyS_rngs (rs : List (Nat × Nat)) : anyS (rngs rs) = fromS rs := by funext i; simp [anyS, rngs, fromS, List.any_map]; rfl
theorem cell_four_new {w : World} {B : Nat} {t : Nat → Bool} (h : Blk w B #[.int .u64 (wd t 0), .int .u64 (wd t 1), .int .u64 (wd t 2), .int .u64 (wd t 3)] 25) : ∀ j u, [.int .u64 (wd t 0), .int .u64 (wd t 1), .int .u64 (wd t 2), .int .u64 (wd t 3)][j]? = some u → w.cell? ((⟨B, 0, none⟩ : Addr).add j) = some u := by
  intro j u hj
  have e : (⟨B, 0, none⟩ : Addr).add j = ⟨B, j, none⟩ := by simp [Addr.add]; intro h; exact h.symm
  rw [e, h.cell j]
  simpa using hj

set_option maxRecDepth 100000 in
set_option maxHeartbeats 4000000 in
theorem rfrom_any (rs : List (Nat × Nat)) (v0 : Value) (w : World) (hv : RunsAt w w.heap.size v0 rs) (hsm : Small rs) (hlen : rs.length ≤ 1000) :
    Calls Tryd.prog 31 #[v0] w fun e w' => e = .returned (.agg #[.int .u64 (wd (fromS rs) 0), .int .u64 (wd (fromS rs) 1), .int .u64 (wd (fromS rs) 2), .int .u64 (wd (fromS rs) 3)]) ∧ Below w.heap.size w w' := by
  obtain ⟨ao, cap, rfl, _, hc⟩ := hv
  have HC := Lib.hid hc
  have HS := Lib.hid hsm
  obtain ⟨i0, hi, hz0, hz1, hz2⟩ := info_parts Tryd.info25
  have hror := ror_any
  clear hc hsm
  go_enter Tryd.func31, Tryd.ntmps31
  go_wp2
  go_loopw [3, 4] (fun v i wr => ∃ k : Nat, k ≤ rs.length ∧ i = .int .i64 k ∧ wr.ownsRow (w.heap.size + 1) 25 4 v (rngs (rs.take k)).length (ccells (rngs (rs.take k))) ∧ Blk wr w.heap.size #[.int .u64 0, .int .u64 0, .int .u64 0, .int .u64 0] 25 ∧ Below w.heap.size w wr ∧ w.heap.size + 1 ≤ wr.heap.size) (fun _ i _ => rs.length - (intOf i).toNat)
  case atStart => exact ⟨0, by omega, rfl, World.ownsRow_nil _ _ _ _, Blk.new _ _ _, (Below.refl _ _).alloc (Nat.le_refl _) _, by simp⟩
  case round =>
    obtain ⟨k, hk, rfl, hown, hA, hbl, hsz⟩ := hrel
    by_cases hlt : k < rs.length
    · obtain ⟨b, off, rfl, hb, hcell⟩ := HC.out (by omega)
      have hbwr : b < wr.heap.size := Nat.lt_of_lt_of_le hb hbl.size
      have c0 := (hbl.cell (p := ⟨b, off + k * 2, none⟩) hb).trans ((hcell (k * 2) (by omega)).trans (rcells_at rs k hlt).1)
      have c1 := (hbl.cell (p := ⟨b, off + (k * 2 + 1), none⟩) hb).trans ((hcell (k * 2 + 1) (by omega)).trans (rcells_at rs k hlt).2)
      rw [← Nat.add_assoc] at c1
      obtain ⟨hx, hy⟩ := HS.out.get hlt
      have hT := rngs_take rs k hlt
      have hrl : (rngs (rs.take k)).length = k := by rw [rngs_length, List.length_take]; omega
      obtain ⟨x, hxe⟩ : ∃ x, x = (rget rs k).1 := ⟨_, rfl⟩
      obtain ⟨y, hye⟩ : ∃ y, y = (rget rs k).2 := ⟨_, rfl⟩
      rw [← hxe] at c0 hx hT
      rw [← hye] at c1 hy hT
      have HT := Lib.hid hT
      have HO := Lib.hid hown
      have HRL := Lib.hid hrl
      have HA := Lib.hid hA
      have HBL := Lib.hid hbl
      clear hxe hye hT hrl hcell hown hA hbl
      go_wp2
      refine wp_region_lay_tail2 [some (.is u3), some (.is (.slice (some ⟨b, off, none⟩) rs.length cap)), some (.is (.int .i64 k)), some (.is (.pointer (some ⟨b, off + k * 2, none⟩))), some (.is (.pointer (some ⟨b, off + k * 2, none⟩))), some (.is (.int .u8 x)), some (.is (.slice (some ⟨b, off, none⟩) rs.length cap)), some (.is (.int .i64 k)), some (.is (.pointer (some ⟨b, off + k * 2, none⟩))), some (.is (.pointer (some ⟨b, off + k * 2 + 1, none⟩))), some (.is (.int .u8 y)), some (.is (.agg #[.int .u64 (wd ((rng x (y + 1))) 0), .int .u64 (wd ((rng x (y + 1))) 1), .int .u64 (wd ((rng x (y + 1))) 2), .int .u64 (wd ((rng x (y + 1))) 3)])), some (.st (oneSt (rng x (y + 1))))] (fun f => #[.slice (some ⟨b, off, none⟩) rs.length cap, undef, .pointer (some ⟨w.heap.size, 0, none⟩), u3, .int .i64 k, .int .i64 k, .slice (some ⟨b, off, none⟩) rs.length cap, .int .i64 rs.length, .bool true, u9, u10, f 11, f 12, f 13, f 14, f 15, f 16, f 17, f 18, f 19, f 20, f 21, f 22, f 23, u24, undef, undef]) _ _ (by kernel_rfl) rfl rfl (by kernel_rfl) (by kernel_rfl) (by kernel_rfl) (by kernel_rfl) (fun f => by kernel_rfl)
          ⟨by
            intro _ act W hS hun hd
            exact g_move rfl (hun 3 (by kernel_rfl)),
          by
            intro _ act W hS hun hd
            exact g_move rfl (hun 0 (by kernel_rfl)),
          by
            intro _ act W hS hun hd
            exact g_move rfl (hun 4 (by kernel_rfl)),
          by
            intro _ act W hS hun hd
            exact g_index30 hlt rfl (hd 1 _ 12 rfl rfl (by kernel_rfl)) (hd 2 _ 13 rfl rfl (by kernel_rfl)) rfl,
          by
            intro _ act W hS hun hd
            exact g_index38o (k := 0) (by decide) rfl (hd 3 _ 14 rfl rfl (by kernel_rfl)) rfl,
          by
            intro _ act W hS hun hd
            exact g_load5 rfl (hd 4 _ 15 rfl rfl (by kernel_rfl)) ((hS.cell (p := ⟨b, off + k * 2, none⟩) hbwr).trans c0) rfl,
          by
            intro _ act W hS hun hd
            exact g_move rfl (hun 0 (by kernel_rfl)),
          by
            intro _ act W hS hun hd
            exact g_move rfl (hun 4 (by kernel_rfl)),
          by
            intro _ act W hS hun hd
            exact g_index30 hlt rfl (hd 6 _ 17 rfl rfl (by kernel_rfl)) (hd 7 _ 18 rfl rfl (by kernel_rfl)) rfl,
          by
            intro _ act W hS hun hd
            exact g_index38o (k := 1) (by decide) rfl (hd 8 _ 19 rfl rfl (by kernel_rfl)) rfl,
          by
            intro _ act W hS hun hd
            exact g_load5 rfl (hd 9 _ 20 rfl rfl (by kernel_rfl)) ((hS.cell (p := ⟨b, off + k * 2 + 1, none⟩) hbwr).trans c1) rfl,
          by
            intro _ act W hS hun hd
            have h16 : act.eval (.tmp 16) = .int .u8 x := hd 5 _ 16 rfl rfl (by kernel_rfl)
            have h21 : act.eval (.tmp 21) = .int .u8 y := hd 10 _ 21 rfl rfl (by kernel_rfl)
            exact g_call (f := 16) rfl en16 (by simp only [List.map_toArray, List.map_cons, List.map_nil, h16, h21]) ((rrange_any x y W hx hy).mono fun _ _ ⟨he, hb⟩ => ⟨_, he, hb, rfl⟩),
          by
            intro _ act W hS hun hd
            have h22 : act.eval (.tmp 22) = .agg #[.int .u64 (wd ((rng x (y + 1))) 0), .int .u64 (wd ((rng x (y + 1))) 1), .int .u64 (wd ((rng x (y + 1))) 2), .int .u64 (wd ((rng x (y + 1))) 3)] := hd 11 _ 22 rfl rfl (by kernel_rfl)
            exact g_build1 rfl h22,
          trivial⟩ ?_
      intro f W hW hf
      have h11 : f 11 = u3 := hf 0 _ 11 rfl rfl
      obtain ⟨Bn, h23, hBn⟩ : (oneSt (rng x (y + 1))).holds (f 23) W := hf 12 _ 23 rfl rfl
      have hO1 := ownsRow_below HO.out hW
      have hA1 := HA.out.below hW HA.out.lt
      have hbl1 := HBL.out.trans (hW.mono HBL.out.size)
      have hsz1 := hW.size
      have hrl := HRL.out
      rw [h11, h23]
      clear hf hW h11 h23 c0 c1
      refine wpList_append_own _ rfl _ _ 41 rfl (w.heap.size + 1) 25 i0 (.agg #[.int .u64 0, .int .u64 0, .int .u64 0, .int .u64 0]) 4 32 Tryd.underlying41 hi hz0 hz1 hz2 rfl (by decide) _ _ _ rfl hO1 ⟨Bn, 0, none⟩ 1 1 [.int .u64 (wd ((rng x (y + 1))) 0), .int .u64 (wd ((rng x (y + 1))) 1), .int .u64 (wd ((rng x (y + 1))) 2), .int .u64 (wd ((rng x (y + 1))) 3)] rfl rfl (cell_four_new hBn) (by simp [Value.oneCell']) (by unfold maxLen; omega) (by omega) (by omega) ?_
      intro v' w1 hown' hgrow _
      go_wp2
      go_roundw
      case rel =>
        have hgb : ∀ r, (u3 : Value).ownBlock = some r → w.heap.size + 1 ≤ r := fun r hr => (hO1.lt r hr).1
        refine ⟨k + 1, by omega, by go_num, by rw [HT.out, ccells_app, List.length_append]; simpa [ccells] using hown', (hgrow.block _ hA1.lt (fun e => by have := hgb _ e.symm; omega)).trans hA1, hbl1.grown hgrow (by omega) (fun r e => by have := hgb r e; omega), by have := hgrow.size; omega⟩
      case measure => simp [intOf]; omega
    · obtain rfl : k = rs.length := by omega
      rw [List.take_length] at hown
      have hcls := ClsAt.of_owns hown
      have HF := Lib.hid (anyS_rngs rs)
      obtain ⟨g, hg⟩ : ∃ g, g = anyS (rngs rs) := ⟨_, rfl⟩
      have hr := fun w h => hror u3 (rngs rs) w h
      rw [← hg] at hr HF
      have HCL := Lib.hid hcls
      clear hown hcls hg hror
      go_wp2_with (go_at_call 27; (with_reducible refine (hr _ HCL.out).mono ?_); rintro e w1 ⟨rfl, hb1⟩; have hA1 := hA.below hb1 hA.lt; have hbl1 := hbl.trans (hb1.mono hbl.size); obtain ⟨⟨d0, d1, d2, d3⟩, ⟨g0, g1, g2, g3⟩⟩ := hA1.four)
      refine bodyPost_ret (v := .agg #[.int .u64 (wd g 0), .int .u64 (wd g 1), .int .u64 (wd g 2), .int .u64 (wd g 3)]) (by simp [results, Tryd.results31, go_sem, *]; done) rfl ⟨by rw [HF.out], ?_⟩
      exact below_set4 hbl1 (Nat.le_refl _) _ _ _ _
end Go.Proofs.YtcnikeeapillnaaDoor

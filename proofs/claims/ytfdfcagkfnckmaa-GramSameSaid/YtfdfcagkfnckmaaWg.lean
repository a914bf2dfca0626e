/- Two grammars compared: the program's answer. -/
import Derived.Test.YtfdfcagkfnckmaaWf
namespace Go.Proofs.Ytfdfcagkfnckmaa
open Go Go.RowKit
/-- Two grammars are the same, part by part. -/
def sameGr (g h : Gr) : Bool := rowSame Rl.zero sameRl g.rules h.rules && rowSame Nd.zero sameNd g.nodes h.nodes
theorem bel {w w1 w2 : World} (h1 : Below w.heap.size w w1) (h2 : Below w1.heap.size w1 w2) : Below w.heap.size w w2 := bb h1 h2
set_option maxHeartbeats 1000000 in
theorem sameGram_any (g h : Gr) (w : World) (hg : Gr.At w g) (hh : Gr.At w h) : Calls Try.prog 23 #[g.val, h.val] w fun e w' => e = .returned (.bool (sameGr g h)) ∧ Below w.heap.size w w' := by
  have R := Lib.hid (fun (w' : World) (b : Below w.heap.size w w') => row_rule g.RA h.RA g.rc h.rc g.rules h.rules hg.rl hh.rl w' (hg.below b).rules (hh.below b).rules)
  have N := Lib.hid (fun (w' : World) (b : Below w.heap.size w w') => row_node g.NA h.NA g.nc h.nc g.nodes h.nodes hg.nl hh.nl w' (hg.below b).nodes (hh.below b).nodes (hg.below b).kids (hh.below b).kids)
  clear hg hh
  have HV := Lib.hid (show sameGr g h = (rowSame Rl.zero sameRl g.rules h.rules && rowSame Nd.zero sameNd g.nodes h.nodes) from rfl)
  obtain ⟨x, ex⟩ : ∃ x, x = rowSame Rl.zero sameRl g.rules h.rules := ⟨_, rfl⟩
  obtain ⟨y, ey⟩ : ∃ y, y = rowSame Nd.zero sameNd g.nodes h.nodes := ⟨_, rfl⟩
  rw [← ex] at R HV
  rw [← ey] at N HV
  clear ex ey
  cases x with
  | true =>
    go_enter Try.func23, Try.ntmps23
    go_wp2_with (first | (go_at_call 48; refine (R.out _ (B2 _ _ _)).mono ?_; rintro e w1 ⟨rfl, hb⟩; have H1 := Lib.hid (bb (B2 _ _ _) hb); have hB := hb.block; have K := Lib.hid hb.size; have c0 := ((Blk.new w _ _).alloc _ |>.below' hb).cell 1; have c1 := ((Blk.new (w.alloc _) _ _).below' hb).cell 1; rw [World.size_alloc] at c1; simp at c0 c1; clear hb hB) | (go_at_call 50; refine (N.out _ H1.out).mono ?_; rintro e w2 ⟨rfl, hb⟩; have H2 := Lib.hid (bb H1.out hb); clear hb))
    all_goals go_ret
    all_goals exact ⟨ret_bool (by rw [HV.out]; simp), H2.out⟩
  | false =>
    go_enter Try.func23, Try.ntmps23
    go_wp2_with (go_at_call 48; refine (R.out _ (B2 _ _ _)).mono ?_; rintro e w1 ⟨rfl, hb⟩; have H1 := Lib.hid (bb (B2 _ _ _) hb); clear hb)
    all_goals go_ret
    all_goals exact ⟨ret_bool (by rw [HV.out]; simp), H1.out⟩
end Go.Proofs.Ytfdfcagkfnckmaa

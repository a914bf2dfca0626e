/- What the reference tells: Rank, Rule, Rules, Nodes. (Great seat.) -/
import Derived.Test.YtlbjmkljmhfjdaaGreatE5
import Derived.Test.YtlbjmkljmhfjdaaGreatE6
set_option linter.unusedSimpArgs false
set_option linter.unusedVariables false
namespace Go.Proofs.YtlbjmkljmhfjdaaGreat
open Go Go.Proofs Go.RowKit Go.Lib Go.Maps
theorem low_top {g : Gr} {b : Int} (h : (g.rules.length : Int) < b) : lowB (ranks g) b = inB (ranks g) := by
  funext r
  unfold lowB
  rw [decide_eq_true (show (ranks g).getD r.toNat 0 < b by have := ranks_le g r.toNat; omega), Bool.and_true]
end Go.Proofs.YtlbjmkljmhfjdaaGreat

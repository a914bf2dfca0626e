/- gram's copies of nodes, as a row. -/
import Derived.Test.YtlbjmkljmhfjdaaGreatD8
import Derived.Test.YtlbjmkljmhfjdaaGreatC2
set_option linter.unusedSimpArgs false
set_option linter.unusedVariables false
namespace Go.Proofs.YtlbjmkljmhfjdaaGreat
open Go Go.RowKit Go.Shelf
attribute [local go_sem] Oper.semAt_some
end Go.Proofs.YtlbjmkljmhfjdaaGreat

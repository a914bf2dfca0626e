/- A region in the text's order whose own operations only read and whose callees may make memory: one walk, in any world that has grown out of the first. Nothing here speaks of one program. -/
import Derived.Test.YtlbjmkljmhfjdaaGreatA3
import Derived.WalkKit
import Derived.Test.YtlbjmkljmhfjdaaGreatB6
set_option linter.unusedSimpArgs false
set_option linter.unusedVariables false
namespace Go.Proofs.YtlbjmkljmhfjdaaGreat
open Go Go.RowKit
end Go.Proofs.YtlbjmkljmhfjdaaGreat
namespace Go.Proofs.YtlbjmkljmhfjdaaGreat
end Go.Proofs.YtlbjmkljmhfjdaaGreat

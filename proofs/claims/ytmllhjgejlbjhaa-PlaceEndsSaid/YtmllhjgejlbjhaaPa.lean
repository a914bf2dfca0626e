/- What the rows of layer 2 share. -/
import Derived.Test.YtmllhjgejlbjhaaPg
import Derived.Test.YtmllhjgejlbjhaaRows
namespace Go.Proofs.Ytmllhjgejlbjhaa
open Go Go.ChangeShapes Go.WideShapes Go.ChangeAt Go.RowKit
theorem own : ownKnob Try.prog.godebug = none := by kernel_rfl
theorem laidOut : laidOutB Try.prog = true := by kernel_rfl
theorem cells5 : Try.prog.cellsOf 5 = 1 := by kernel_rfl
end Go.Proofs.Ytmllhjgejlbjhaa

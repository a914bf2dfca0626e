/-
  No cell of these rows narrows 'for every input' (looked for: loops, veiled, ifaces, maps, wideKeys, modest, calm, conditions, laid).
  DERIVED. THE GIVEN ROWS OF THIS SEAT. 5 by the template 'for every input the law returns true; each argument reads behind the call as it read before'; 0 by the template 'total and deterministic' (their statements: YtfdfcagkfnckmaaTotals.lean).
  GIVEN WITH THE SEED: the statements are not yours to turn. If you find one false, say at which input.
  Laid BY PROGRAM, IN A SANDBOX (cutbox-rows.mjs): the forced cells as the released guide's own fill.sh prints them over the translation 9098c32ba992312b… (all of the seat's roots in one cut). By AI agents, Wed Nov 11 2026. No macro, syntax, notation, axiom, sorry.
-/
import Derived.Test.YtfdfcagkfnckmaaChecked
import GoSem.Claim
import GoSem.ClaimJoined
import GoSem.ClaimMapViews
import Derived.JoinedTies
import Derived.KernelRfl
namespace Go.Proofs.Ytfdfcagkfnckmaa
/- THE CELL 'sum', in the pinned program and in every row, IS THE sha256 OF THE DUMP (.gsa) THAT YtfdfcagkfnckmaaProg.lean LOADS. Nothing in Lean hashes anything: it is a label: what it is worth is what the hold of that sum in a sandbox is worth. -/
noncomputable def Try.pinned : Pinned := { name := "ytfdfcagkfnckmaa", sum := "9098c32ba992312b34b57614a4cb6276b047881e930619c57aa53f547bfe3d17", checked := Try.checked }
namespace Rows
def none {H : Type} : Left H := { results := [], args := [] }

/-- 'seedlinglaw06.GramTells': WHATEVER THE INPUT: true; the input reads as it did. -/
def gramTellsSpec : ChangeSpec := { name := "gramTells", fn := fun _ => fun
  | [d1, d2, d3, d4, d5] => { results := [.lit (.bool true)], args := [d1, d2, d3, d4, d5] }
  | _ => none }
def gramTellsRow : OpenClaim := { program := "ytfdfcagkfnckmaa", sum := "9098c32ba992312b34b57614a4cb6276b047881e930619c57aa53f547bfe3d17", func := "seedling/seedlinglaw06.GramTells", spec := "gramTells", unfollowed := true, recurses := true, apart := false }
def GramTellsSaid : Prop := gramTellsRow.holds Try.pinned (OpenSpec.ofChange gramTellsSpec)

/-- ITS FALSE NEIGHBOUR: 'it returns false'. Refute it at one input. -/
def gramTellsWrong : ChangeSpec := { name := "gramTells", fn := fun _ => fun
  | [d1, d2, d3, d4, d5] => { results := [.lit (.bool false)], args := [d1, d2, d3, d4, d5] }
  | _ => none }
def GramTellsWrongFalsely : Prop := gramTellsRow.holds Try.pinned (OpenSpec.ofChange gramTellsWrong)

/-- 'seedlinglaw06.GramSame': WHATEVER THE INPUT: true; the input reads as it did. -/
def gramSameSpec : ChangeSpec := { name := "gramSame", fn := fun _ => fun
  | [d1, d2] => { results := [.lit (.bool true)], args := [d1, d2] }
  | _ => none }
def gramSameRow : OpenClaim := { program := "ytfdfcagkfnckmaa", sum := "9098c32ba992312b34b57614a4cb6276b047881e930619c57aa53f547bfe3d17", func := "seedling/seedlinglaw06.GramSame", spec := "gramSame", unfollowed := true, recurses := true, apart := false }
def GramSameSaid : Prop := gramSameRow.holds Try.pinned (OpenSpec.ofChange gramSameSpec)

/-- ITS FALSE NEIGHBOUR: 'it returns false'. Refute it at one input. -/
def gramSameWrong : ChangeSpec := { name := "gramSame", fn := fun _ => fun
  | [d1, d2] => { results := [.lit (.bool false)], args := [d1, d2] }
  | _ => none }
def GramSameWrongFalsely : Prop := gramSameRow.holds Try.pinned (OpenSpec.ofChange gramSameWrong)

/-- 'seedlinglaw06.GramEnds': WHATEVER THE INPUT: true; the input reads as it did. -/
def gramEndsSpec : ChangeSpec := { name := "gramEnds", fn := fun _ => fun
  | [] => { results := [.lit (.bool true)], args := [] }
  | _ => none }
def gramEndsRow : OpenClaim := { program := "ytfdfcagkfnckmaa", sum := "9098c32ba992312b34b57614a4cb6276b047881e930619c57aa53f547bfe3d17", func := "seedling/seedlinglaw06.GramEnds", spec := "gramEnds", unfollowed := true, recurses := true, apart := false }
def GramEndsSaid : Prop := gramEndsRow.holds Try.pinned (OpenSpec.ofChange gramEndsSpec)

/-- ITS FALSE NEIGHBOUR: 'it returns false'. Refute it at one input. -/
def gramEndsWrong : ChangeSpec := { name := "gramEnds", fn := fun _ => fun
  | [] => { results := [.lit (.bool false)], args := [] }
  | _ => none }
def GramEndsWrongFalsely : Prop := gramEndsRow.holds Try.pinned (OpenSpec.ofChange gramEndsWrong)

/-- 'seedlinglaw06.GramTree': WHATEVER THE INPUT: true; the input reads as it did. -/
def gramTreeSpec : ChangeSpec := { name := "gramTree", fn := fun _ => fun
  | [d] => { results := [.lit (.bool true)], args := [d] }
  | _ => none }
def gramTreeRow : OpenClaim := { program := "ytfdfcagkfnckmaa", sum := "9098c32ba992312b34b57614a4cb6276b047881e930619c57aa53f547bfe3d17", func := "seedling/seedlinglaw06.GramTree", spec := "gramTree", unfollowed := true, recurses := true, apart := false }
def GramTreeSaid : Prop := gramTreeRow.holds Try.pinned (OpenSpec.ofChange gramTreeSpec)

/-- ITS FALSE NEIGHBOUR: 'it returns false'. Refute it at one input. -/
def gramTreeWrong : ChangeSpec := { name := "gramTree", fn := fun _ => fun
  | [d] => { results := [.lit (.bool false)], args := [d] }
  | _ => none }
def GramTreeWrongFalsely : Prop := gramTreeRow.holds Try.pinned (OpenSpec.ofChange gramTreeWrong)

/-- 'seedlinglaw06.GramWalks': WHATEVER THE INPUT: true; the input reads as it did. -/
def gramWalksSpec : ChangeSpec := { name := "gramWalks", fn := fun _ => fun
  | [d1, d2, d3, d4] => { results := [.lit (.bool true)], args := [d1, d2, d3, d4] }
  | _ => none }
def gramWalksRow : OpenClaim := { program := "ytfdfcagkfnckmaa", sum := "9098c32ba992312b34b57614a4cb6276b047881e930619c57aa53f547bfe3d17", func := "seedling/seedlinglaw06.GramWalks", spec := "gramWalks", unfollowed := true, recurses := true, apart := false }
def GramWalksSaid : Prop := gramWalksRow.holds Try.pinned (OpenSpec.ofChange gramWalksSpec)

/-- ITS FALSE NEIGHBOUR: 'it returns false'. Refute it at one input. -/
def gramWalksWrong : ChangeSpec := { name := "gramWalks", fn := fun _ => fun
  | [d1, d2, d3, d4] => { results := [.lit (.bool false)], args := [d1, d2, d3, d4] }
  | _ => none }
def GramWalksWrongFalsely : Prop := gramWalksRow.holds Try.pinned (OpenSpec.ofChange gramWalksWrong)

/- THE SECOND FORM. 'bulk': how many values and letters a reading holds, each counted each time it is reached (what is shared counts as often as it is met; a slice's spare places count too). A statement '..UptoSaid' is the law's where the arguments, and the package variables that the reading takes, are together of bulk at most 1048576: NARROWER than '..Said'. Prove '..Said' where nothing that the law and all that it calls make is longer than what came in: it says more and counts as full. Else prove '..UptoSaid'. A law counts once. -/
mutual
def uptoBulk {H : Type} : DataW H → Nat
  | .lit (.string bytes) => bytes.length + 1
  | .lit _ => 1
  | .nil => 1
  | .ptr d => uptoBulk d + 1
  | .slice elems spare => uptoBulkAll elems + uptoBulkAll spare + 1
  | .agg parts => uptoBulkAll parts + 1
  | .iface _ d => uptoBulk d + 1
  | .map entries => uptoBulkEntries entries + 1
  | .held _ => 1
def uptoBulkAll {H : Type} : List (DataW H) → Nat
  | [] => 0
  | d :: r => uptoBulk d + uptoBulkAll r
def uptoBulkEntries {H : Type} : List (Lit × DataW H) → Nat
  | [] => 0
  | x :: r => uptoBulkEntry x + uptoBulkEntries r
def uptoBulkEntry {H : Type} : Lit × DataW H → Nat
  | (.string bytes, d) => bytes.length + uptoBulk d + 1
  | (_, d) => uptoBulk d + 1
 end
def uptoSmall : (H : Type) → List (DataW H) → Bool := fun _ ds => decide (uptoBulkAll ds ≤ 1048576)
def OpenSpec.upto (s : _root_.Go.ChangeSpec) : _root_.Go.OpenSpec := { _root_.Go.OpenSpec.ofChange s with cond := some uptoSmall }

/-- 'seedlinglaw06.GramTells', WHERE WHAT IT READS IS OF BULK AT MOST 1048576: true; the input reads as it did. -/
def gramTellsUptoRow : OpenClaim := { program := "ytfdfcagkfnckmaa", sum := "9098c32ba992312b34b57614a4cb6276b047881e930619c57aa53f547bfe3d17", func := "seedling/seedlinglaw06.GramTells", spec := "gramTells", unfollowed := true, recurses := true, apart := false, narrowed := true }
def GramTellsUptoSaid : Prop := gramTellsUptoRow.holds Try.pinned (OpenSpec.upto gramTellsSpec)

/-- 'seedlinglaw06.GramSame', WHERE WHAT IT READS IS OF BULK AT MOST 1048576: true; the input reads as it did. -/
def gramSameUptoRow : OpenClaim := { program := "ytfdfcagkfnckmaa", sum := "9098c32ba992312b34b57614a4cb6276b047881e930619c57aa53f547bfe3d17", func := "seedling/seedlinglaw06.GramSame", spec := "gramSame", unfollowed := true, recurses := true, apart := false, narrowed := true }
def GramSameUptoSaid : Prop := gramSameUptoRow.holds Try.pinned (OpenSpec.upto gramSameSpec)

/-- 'seedlinglaw06.GramEnds', WHERE WHAT IT READS IS OF BULK AT MOST 1048576: true; the input reads as it did. -/
def gramEndsUptoRow : OpenClaim := { program := "ytfdfcagkfnckmaa", sum := "9098c32ba992312b34b57614a4cb6276b047881e930619c57aa53f547bfe3d17", func := "seedling/seedlinglaw06.GramEnds", spec := "gramEnds", unfollowed := true, recurses := true, apart := false, narrowed := true }
def GramEndsUptoSaid : Prop := gramEndsUptoRow.holds Try.pinned (OpenSpec.upto gramEndsSpec)

/-- 'seedlinglaw06.GramTree', WHERE WHAT IT READS IS OF BULK AT MOST 1048576: true; the input reads as it did. -/
def gramTreeUptoRow : OpenClaim := { program := "ytfdfcagkfnckmaa", sum := "9098c32ba992312b34b57614a4cb6276b047881e930619c57aa53f547bfe3d17", func := "seedling/seedlinglaw06.GramTree", spec := "gramTree", unfollowed := true, recurses := true, apart := false, narrowed := true }
def GramTreeUptoSaid : Prop := gramTreeUptoRow.holds Try.pinned (OpenSpec.upto gramTreeSpec)

/-- 'seedlinglaw06.GramWalks', WHERE WHAT IT READS IS OF BULK AT MOST 1048576: true; the input reads as it did. -/
def gramWalksUptoRow : OpenClaim := { program := "ytfdfcagkfnckmaa", sum := "9098c32ba992312b34b57614a4cb6276b047881e930619c57aa53f547bfe3d17", func := "seedling/seedlinglaw06.GramWalks", spec := "gramWalks", unfollowed := true, recurses := true, apart := false, narrowed := true }
def GramWalksUptoSaid : Prop := gramWalksUptoRow.holds Try.pinned (OpenSpec.upto gramWalksSpec)

end Rows
end Go.Proofs.Ytfdfcagkfnckmaa

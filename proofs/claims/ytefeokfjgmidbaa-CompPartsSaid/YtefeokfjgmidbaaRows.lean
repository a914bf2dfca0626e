/-
  No cell of these rows narrows 'for every input' (looked for: loops, veiled, ifaces, maps, wideKeys, modest, calm, conditions, laid).
  DERIVED. THE GIVEN ROWS OF THIS SEAT. 4 by the template 'for every input the law returns true; each argument reads behind the call as it read before'; 0 by the template 'total and deterministic' (their statements: YtefeokfjgmidbaaTotals.lean).
  GIVEN WITH THE SEED: the statements are not yours to turn. If you find one false, say at which input.
  Laid BY PROGRAM, IN A SANDBOX (cutbox-rows.mjs): the forced cells as the released guide's own fill.sh prints them over the translation 87e7a60b6cd4e02f… (all of the seat's roots in one cut). By AI agents, Wed Nov 11 2026. No macro, syntax, notation, axiom, sorry.
-/
import Derived.Test.YtefeokfjgmidbaaChecked
import GoSem.Claim
import GoSem.ClaimJoined
import GoSem.ClaimMapViews
import Derived.JoinedTies
import Derived.KernelRfl
namespace Go.Proofs.Ytefeokfjgmidbaa
/- THE CELL 'sum', in the pinned program and in every row, IS THE sha256 OF THE DUMP (.gsa) THAT YtefeokfjgmidbaaProg.lean LOADS. Nothing in Lean hashes anything: it is a label: what it is worth is what the hold of that sum in a sandbox is worth. -/
noncomputable def Try.pinned : Pinned := { name := "ytefeokfjgmidbaa", sum := "87e7a60b6cd4e02fa9444a35c98325320015d1e19a470d4b172b5503ac01d2d0", checked := Try.checked }
namespace Rows
def none {H : Type} : Left H := { results := [], args := [] }

/-- 'seedlinglaw13.CompParts': WHATEVER THE INPUT: true; the input reads as it did. -/
def compPartsSpec : ChangeSpec := { name := "compParts", fn := fun _ => fun
  | [d1, d2, d3] => { results := [.lit (.bool true)], args := [d1, d2, d3] }
  | _ => none }
def compPartsRow : OpenClaim := { program := "ytefeokfjgmidbaa", sum := "87e7a60b6cd4e02fa9444a35c98325320015d1e19a470d4b172b5503ac01d2d0", func := "seedling/seedlinglaw13.CompParts", spec := "compParts", unfollowed := true, recurses := true, apart := false }
def CompPartsSaid : Prop := compPartsRow.holds Try.pinned (OpenSpec.ofChange compPartsSpec)

/-- ITS FALSE NEIGHBOUR: 'it returns false'. Refute it at one input. -/
def compPartsWrong : ChangeSpec := { name := "compParts", fn := fun _ => fun
  | [d1, d2, d3] => { results := [.lit (.bool false)], args := [d1, d2, d3] }
  | _ => none }
def CompPartsWrongFalsely : Prop := compPartsRow.holds Try.pinned (OpenSpec.ofChange compPartsWrong)

/-- 'seedlinglaw13.CompLeads': WHATEVER THE INPUT: true; the input reads as it did. -/
def compLeadsSpec : ChangeSpec := { name := "compLeads", fn := fun _ => fun
  | [d1, d2, d3] => { results := [.lit (.bool true)], args := [d1, d2, d3] }
  | _ => none }
def compLeadsRow : OpenClaim := { program := "ytefeokfjgmidbaa", sum := "87e7a60b6cd4e02fa9444a35c98325320015d1e19a470d4b172b5503ac01d2d0", func := "seedling/seedlinglaw13.CompLeads", spec := "compLeads", unfollowed := true, recurses := true, apart := false }
def CompLeadsSaid : Prop := compLeadsRow.holds Try.pinned (OpenSpec.ofChange compLeadsSpec)

/-- ITS FALSE NEIGHBOUR: 'it returns false'. Refute it at one input. -/
def compLeadsWrong : ChangeSpec := { name := "compLeads", fn := fun _ => fun
  | [d1, d2, d3] => { results := [.lit (.bool false)], args := [d1, d2, d3] }
  | _ => none }
def CompLeadsWrongFalsely : Prop := compLeadsRow.holds Try.pinned (OpenSpec.ofChange compLeadsWrong)

/-- 'seedlinglaw13.CompTurn': WHATEVER THE INPUT: true; the input reads as it did. -/
def compTurnSpec : ChangeSpec := { name := "compTurn", fn := fun _ => fun
  | [d1, d2, d3] => { results := [.lit (.bool true)], args := [d1, d2, d3] }
  | _ => none }
def compTurnRow : OpenClaim := { program := "ytefeokfjgmidbaa", sum := "87e7a60b6cd4e02fa9444a35c98325320015d1e19a470d4b172b5503ac01d2d0", func := "seedling/seedlinglaw13.CompTurn", spec := "compTurn", unfollowed := true, recurses := true, apart := false }
def CompTurnSaid : Prop := compTurnRow.holds Try.pinned (OpenSpec.ofChange compTurnSpec)

/-- ITS FALSE NEIGHBOUR: 'it returns false'. Refute it at one input. -/
def compTurnWrong : ChangeSpec := { name := "compTurn", fn := fun _ => fun
  | [d1, d2, d3] => { results := [.lit (.bool false)], args := [d1, d2, d3] }
  | _ => none }
def CompTurnWrongFalsely : Prop := compTurnRow.holds Try.pinned (OpenSpec.ofChange compTurnWrong)

/-- 'seedlinglaw13.CompMore': WHATEVER THE INPUT: true; the input reads as it did. -/
def compMoreSpec : ChangeSpec := { name := "compMore", fn := fun _ => fun
  | [d1, d2, d3] => { results := [.lit (.bool true)], args := [d1, d2, d3] }
  | _ => none }
def compMoreRow : OpenClaim := { program := "ytefeokfjgmidbaa", sum := "87e7a60b6cd4e02fa9444a35c98325320015d1e19a470d4b172b5503ac01d2d0", func := "seedling/seedlinglaw13.CompMore", spec := "compMore", unfollowed := true, recurses := true, apart := false }
def CompMoreSaid : Prop := compMoreRow.holds Try.pinned (OpenSpec.ofChange compMoreSpec)

/-- ITS FALSE NEIGHBOUR: 'it returns false'. Refute it at one input. -/
def compMoreWrong : ChangeSpec := { name := "compMore", fn := fun _ => fun
  | [d1, d2, d3] => { results := [.lit (.bool false)], args := [d1, d2, d3] }
  | _ => none }
def CompMoreWrongFalsely : Prop := compMoreRow.holds Try.pinned (OpenSpec.ofChange compMoreWrong)

/- THE SECOND FORM. 'bulk': how many values and letters a reading holds, each counted each time it is reached (what is shared counts as often as it is met; a slice's spare places count too). A statement '..UptoSaid' is the law's where the arguments, and the package variables that the reading takes, are together of bulk at most 1048576: NARROWER than '..Said'. Prove '..Said' where nothing that the law and all that it calls make is longer than what came in: it says more and counts as full. Else prove '..UptoSaid'. A law counts once. -/
mutual
def uptoBulk {H : Type} : DataW H → Nat
  | .lit (.string bytes) => bytes.length + 1
  | .lit _ => 1
  | .nil => 1
  | .ptr d => uptoBulk d + 1
  | .slice elems spare => uptoBulkAll elems + uptoBulkAll spare + 1
  | .agg parts => uptoBulkAll parts + 1
  | .iface _ d => uptoBulk d + 1
  | .map entries => uptoBulkEntries entries + 1
  | .held _ => 1
def uptoBulkAll {H : Type} : List (DataW H) → Nat
  | [] => 0
  | d :: r => uptoBulk d + uptoBulkAll r
def uptoBulkEntries {H : Type} : List (Lit × DataW H) → Nat
  | [] => 0
  | x :: r => uptoBulkEntry x + uptoBulkEntries r
def uptoBulkEntry {H : Type} : Lit × DataW H → Nat
  | (.string bytes, d) => bytes.length + uptoBulk d + 1
  | (_, d) => uptoBulk d + 1
 end
def uptoSmall : (H : Type) → List (DataW H) → Bool := fun _ ds => decide (uptoBulkAll ds ≤ 1048576)
def OpenSpec.upto (s : _root_.Go.ChangeSpec) : _root_.Go.OpenSpec := { _root_.Go.OpenSpec.ofChange s with cond := some uptoSmall }

/-- 'seedlinglaw13.CompParts', WHERE WHAT IT READS IS OF BULK AT MOST 1048576: true; the input reads as it did. -/
def compPartsUptoRow : OpenClaim := { program := "ytefeokfjgmidbaa", sum := "87e7a60b6cd4e02fa9444a35c98325320015d1e19a470d4b172b5503ac01d2d0", func := "seedling/seedlinglaw13.CompParts", spec := "compParts", unfollowed := true, recurses := true, apart := false, narrowed := true }
def CompPartsUptoSaid : Prop := compPartsUptoRow.holds Try.pinned (OpenSpec.upto compPartsSpec)

/-- 'seedlinglaw13.CompLeads', WHERE WHAT IT READS IS OF BULK AT MOST 1048576: true; the input reads as it did. -/
def compLeadsUptoRow : OpenClaim := { program := "ytefeokfjgmidbaa", sum := "87e7a60b6cd4e02fa9444a35c98325320015d1e19a470d4b172b5503ac01d2d0", func := "seedling/seedlinglaw13.CompLeads", spec := "compLeads", unfollowed := true, recurses := true, apart := false, narrowed := true }
def CompLeadsUptoSaid : Prop := compLeadsUptoRow.holds Try.pinned (OpenSpec.upto compLeadsSpec)

/-- 'seedlinglaw13.CompTurn', WHERE WHAT IT READS IS OF BULK AT MOST 1048576: true; the input reads as it did. -/
def compTurnUptoRow : OpenClaim := { program := "ytefeokfjgmidbaa", sum := "87e7a60b6cd4e02fa9444a35c98325320015d1e19a470d4b172b5503ac01d2d0", func := "seedling/seedlinglaw13.CompTurn", spec := "compTurn", unfollowed := true, recurses := true, apart := false, narrowed := true }
def CompTurnUptoSaid : Prop := compTurnUptoRow.holds Try.pinned (OpenSpec.upto compTurnSpec)

/-- 'seedlinglaw13.CompMore', WHERE WHAT IT READS IS OF BULK AT MOST 1048576: true; the input reads as it did. -/
def compMoreUptoRow : OpenClaim := { program := "ytefeokfjgmidbaa", sum := "87e7a60b6cd4e02fa9444a35c98325320015d1e19a470d4b172b5503ac01d2d0", func := "seedling/seedlinglaw13.CompMore", spec := "compMore", unfollowed := true, recurses := true, apart := false, narrowed := true }
def CompMoreUptoSaid : Prop := compMoreUptoRow.holds Try.pinned (OpenSpec.upto compMoreSpec)

end Rows
end Go.Proofs.Ytefeokfjgmidbaa

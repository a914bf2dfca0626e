/-
  No cell of these rows narrows 'for every input' (looked for: loops, veiled, ifaces, maps, wideKeys, modest, calm, conditions, laid).
  DERIVED. THE GIVEN ROWS OF THIS SEAT. 4 by the template 'for every input the law returns true; each argument reads behind the call as it read before'; 0 by the template 'total and deterministic' (their statements: YtaphogjiioecmaaTotals.lean).
  GIVEN WITH THE SEED: the statements are not yours to turn. If you find one false, say at which input.
  Laid BY PROGRAM, IN A SANDBOX (cutbox-rows.mjs): the forced cells as the released guide's own fill.sh prints them over the translation 79fa65916912c11e… (all of the seat's roots in one cut). By AI agents, Wed Nov 11 2026. No macro, syntax, notation, axiom, sorry.
-/
import Derived.Test.YtaphogjiioecmaaChecked
import GoSem.Claim
import GoSem.ClaimJoined
import GoSem.ClaimMapViews
import Derived.JoinedTies
import Derived.KernelRfl
namespace Go.Proofs.Ytaphogjiioecmaa
/- THE CELL 'sum', in the pinned program and in every row, IS THE sha256 OF THE DUMP (.gsa) THAT YtaphogjiioecmaaProg.lean LOADS. Nothing in Lean hashes anything: it is a label: what it is worth is what the hold of that sum in a sandbox is worth. -/
noncomputable def Try.pinned : Pinned := { name := "ytaphogjiioecmaa", sum := "79fa65916912c11e275170b741bf65ddede1072d4c9084a0ffaac546c97c4f30", checked := Try.checked }
namespace Rows
def none {H : Type} : Left H := { results := [], args := [] }

/-- 'seedlinglaw06.GramEnds': WHATEVER THE INPUT: true; the input reads as it did. -/
def gramEndsSpec : ChangeSpec := { name := "gramEnds", fn := fun _ => fun
  | [] => { results := [.lit (.bool true)], args := [] }
  | _ => none }
def gramEndsRow : OpenClaim := { program := "ytaphogjiioecmaa", sum := "79fa65916912c11e275170b741bf65ddede1072d4c9084a0ffaac546c97c4f30", func := "seedling/seedlinglaw06.GramEnds", spec := "gramEnds", unfollowed := true, recurses := true, apart := false }
def GramEndsSaid : Prop := gramEndsRow.holds Try.pinned (OpenSpec.ofChange gramEndsSpec)

/-- ITS FALSE NEIGHBOUR: 'it returns false'. Refute it at one input. -/
def gramEndsWrong : ChangeSpec := { name := "gramEnds", fn := fun _ => fun
  | [] => { results := [.lit (.bool false)], args := [] }
  | _ => none }
def GramEndsWrongFalsely : Prop := gramEndsRow.holds Try.pinned (OpenSpec.ofChange gramEndsWrong)

/-- 'seedlinglaw11.NullNodes': WHATEVER THE INPUT: true; the input reads as it did. -/
def nullNodesSpec : ChangeSpec := { name := "nullNodes", fn := fun _ => fun
  | [d] => { results := [.lit (.bool true)], args := [d] }
  | _ => none }
def nullNodesRow : OpenClaim := { program := "ytaphogjiioecmaa", sum := "79fa65916912c11e275170b741bf65ddede1072d4c9084a0ffaac546c97c4f30", func := "seedling/seedlinglaw11.NullNodes", spec := "nullNodes", unfollowed := true, recurses := true, apart := false }
def NullNodesSaid : Prop := nullNodesRow.holds Try.pinned (OpenSpec.ofChange nullNodesSpec)

/-- ITS FALSE NEIGHBOUR: 'it returns false'. Refute it at one input. -/
def nullNodesWrong : ChangeSpec := { name := "nullNodes", fn := fun _ => fun
  | [d] => { results := [.lit (.bool false)], args := [d] }
  | _ => none }
def NullNodesWrongFalsely : Prop := nullNodesRow.holds Try.pinned (OpenSpec.ofChange nullNodesWrong)

/-- 'seedlinglaw11.NullMore': WHATEVER THE INPUT: true; the input reads as it did. -/
def nullMoreSpec : ChangeSpec := { name := "nullMore", fn := fun _ => fun
  | [d1, d2] => { results := [.lit (.bool true)], args := [d1, d2] }
  | _ => none }
def nullMoreRow : OpenClaim := { program := "ytaphogjiioecmaa", sum := "79fa65916912c11e275170b741bf65ddede1072d4c9084a0ffaac546c97c4f30", func := "seedling/seedlinglaw11.NullMore", spec := "nullMore", unfollowed := true, recurses := true, apart := false }
def NullMoreSaid : Prop := nullMoreRow.holds Try.pinned (OpenSpec.ofChange nullMoreSpec)

/-- ITS FALSE NEIGHBOUR: 'it returns false'. Refute it at one input. -/
def nullMoreWrong : ChangeSpec := { name := "nullMore", fn := fun _ => fun
  | [d1, d2] => { results := [.lit (.bool false)], args := [d1, d2] }
  | _ => none }
def NullMoreWrongFalsely : Prop := nullMoreRow.holds Try.pinned (OpenSpec.ofChange nullMoreWrong)

/-- 'seedlinglaw11.NullAhead': WHATEVER THE INPUT: true; the input reads as it did. -/
def nullAheadSpec : ChangeSpec := { name := "nullAhead", fn := fun _ => fun
  | [d] => { results := [.lit (.bool true)], args := [d] }
  | _ => none }
def nullAheadRow : OpenClaim := { program := "ytaphogjiioecmaa", sum := "79fa65916912c11e275170b741bf65ddede1072d4c9084a0ffaac546c97c4f30", func := "seedling/seedlinglaw11.NullAhead", spec := "nullAhead", unfollowed := true, recurses := true, apart := false }
def NullAheadSaid : Prop := nullAheadRow.holds Try.pinned (OpenSpec.ofChange nullAheadSpec)

/-- ITS FALSE NEIGHBOUR: 'it returns false'. Refute it at one input. -/
def nullAheadWrong : ChangeSpec := { name := "nullAhead", fn := fun _ => fun
  | [d] => { results := [.lit (.bool false)], args := [d] }
  | _ => none }
def NullAheadWrongFalsely : Prop := nullAheadRow.holds Try.pinned (OpenSpec.ofChange nullAheadWrong)

/- THE SECOND FORM. 'bulk': how many values and letters a reading holds, each counted each time it is reached (what is shared counts as often as it is met; a slice's spare places count too). A statement '..UptoSaid' is the law's where the arguments, and the package variables that the reading takes, are together of bulk at most 1048576: NARROWER than '..Said'. Prove '..Said' where nothing that the law and all that it calls make is longer than what came in: it says more and counts as full. Else prove '..UptoSaid'. A law counts once. -/
mutual
def uptoBulk {H : Type} : DataW H → Nat
  | .lit (.string bytes) => bytes.length + 1
  | .lit _ => 1
  | .nil => 1
  | .ptr d => uptoBulk d + 1
  | .slice elems spare => uptoBulkAll elems + uptoBulkAll spare + 1
  | .agg parts => uptoBulkAll parts + 1
  | .iface _ d => uptoBulk d + 1
  | .map entries => uptoBulkEntries entries + 1
  | .held _ => 1
def uptoBulkAll {H : Type} : List (DataW H) → Nat
  | [] => 0
  | d :: r => uptoBulk d + uptoBulkAll r
def uptoBulkEntries {H : Type} : List (Lit × DataW H) → Nat
  | [] => 0
  | x :: r => uptoBulkEntry x + uptoBulkEntries r
def uptoBulkEntry {H : Type} : Lit × DataW H → Nat
  | (.string bytes, d) => bytes.length + uptoBulk d + 1
  | (_, d) => uptoBulk d + 1
 end
def uptoSmall : (H : Type) → List (DataW H) → Bool := fun _ ds => decide (uptoBulkAll ds ≤ 1048576)
def OpenSpec.upto (s : _root_.Go.ChangeSpec) : _root_.Go.OpenSpec := { _root_.Go.OpenSpec.ofChange s with cond := some uptoSmall }

/-- 'seedlinglaw06.GramEnds', WHERE WHAT IT READS IS OF BULK AT MOST 1048576: true; the input reads as it did. -/
def gramEndsUptoRow : OpenClaim := { program := "ytaphogjiioecmaa", sum := "79fa65916912c11e275170b741bf65ddede1072d4c9084a0ffaac546c97c4f30", func := "seedling/seedlinglaw06.GramEnds", spec := "gramEnds", unfollowed := true, recurses := true, apart := false, narrowed := true }
def GramEndsUptoSaid : Prop := gramEndsUptoRow.holds Try.pinned (OpenSpec.upto gramEndsSpec)

/-- 'seedlinglaw11.NullNodes', WHERE WHAT IT READS IS OF BULK AT MOST 1048576: true; the input reads as it did. -/
def nullNodesUptoRow : OpenClaim := { program := "ytaphogjiioecmaa", sum := "79fa65916912c11e275170b741bf65ddede1072d4c9084a0ffaac546c97c4f30", func := "seedling/seedlinglaw11.NullNodes", spec := "nullNodes", unfollowed := true, recurses := true, apart := false, narrowed := true }
def NullNodesUptoSaid : Prop := nullNodesUptoRow.holds Try.pinned (OpenSpec.upto nullNodesSpec)

/-- 'seedlinglaw11.NullMore', WHERE WHAT IT READS IS OF BULK AT MOST 1048576: true; the input reads as it did. -/
def nullMoreUptoRow : OpenClaim := { program := "ytaphogjiioecmaa", sum := "79fa65916912c11e275170b741bf65ddede1072d4c9084a0ffaac546c97c4f30", func := "seedling/seedlinglaw11.NullMore", spec := "nullMore", unfollowed := true, recurses := true, apart := false, narrowed := true }
def NullMoreUptoSaid : Prop := nullMoreUptoRow.holds Try.pinned (OpenSpec.upto nullMoreSpec)

/-- 'seedlinglaw11.NullAhead', WHERE WHAT IT READS IS OF BULK AT MOST 1048576: true; the input reads as it did. -/
def nullAheadUptoRow : OpenClaim := { program := "ytaphogjiioecmaa", sum := "79fa65916912c11e275170b741bf65ddede1072d4c9084a0ffaac546c97c4f30", func := "seedling/seedlinglaw11.NullAhead", spec := "nullAhead", unfollowed := true, recurses := true, apart := false, narrowed := true }
def NullAheadUptoSaid : Prop := nullAheadUptoRow.holds Try.pinned (OpenSpec.upto nullAheadSpec)

end Rows
end Go.Proofs.Ytaphogjiioecmaa

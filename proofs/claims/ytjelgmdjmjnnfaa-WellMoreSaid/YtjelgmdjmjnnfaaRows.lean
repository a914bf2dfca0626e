/-
  No cell of these rows narrows 'for every input' (looked for: loops, veiled, ifaces, maps, wideKeys, modest, calm, conditions, laid).
  DERIVED. THE GIVEN ROWS OF THIS SEAT. 3 by the template 'for every input the law returns true; each argument reads behind the call as it read before'; 0 by the template 'total and deterministic' (their statements: YtjelgmdjmjnnfaaTotals.lean).
  GIVEN WITH THE SEED: the statements are not yours to turn. If you find one false, say at which input.
  Laid BY PROGRAM, IN A SANDBOX (cutbox-rows.mjs): the forced cells as the released guide's own fill.sh prints them over the translation 857cac2b66839be4… (all of the seat's roots in one cut). By AI agents, Wed Nov 11 2026. No macro, syntax, notation, axiom, sorry.
-/
import Derived.Test.YtjelgmdjmjnnfaaChecked
import GoSem.Claim
import GoSem.ClaimJoined
import GoSem.ClaimMapViews
import Derived.JoinedTies
import Derived.KernelRfl
namespace Go.Proofs.Ytjelgmdjmjnnfaa
/- THE CELL 'sum', in the pinned program and in every row, IS THE sha256 OF THE DUMP (.gsa) THAT YtjelgmdjmjnnfaaProg.lean LOADS. Nothing in Lean hashes anything: it is a label: what it is worth is what the hold of that sum in a sandbox is worth. -/
noncomputable def Try.pinned : Pinned := { name := "ytjelgmdjmjnnfaa", sum := "857cac2b66839be40d1843c6e3da144f89741c65ef706c1b22a8fa7011ca25a8", checked := Try.checked }
namespace Rows
def none {H : Type} : Left H := { results := [], args := [] }

/-- 'seedlinglaw15.WellMend': WHATEVER THE INPUT: true; the input reads as it did. -/
def wellMendSpec : ChangeSpec := { name := "wellMend", fn := fun _ => fun
  | [d] => { results := [.lit (.bool true)], args := [d] }
  | _ => none }
def wellMendRow : OpenClaim := { program := "ytjelgmdjmjnnfaa", sum := "857cac2b66839be40d1843c6e3da144f89741c65ef706c1b22a8fa7011ca25a8", func := "seedling/seedlinglaw15.WellMend", spec := "wellMend", unfollowed := true, recurses := true, apart := false }
def WellMendSaid : Prop := wellMendRow.holds Try.pinned (OpenSpec.ofChange wellMendSpec)

/-- ITS FALSE NEIGHBOUR: 'it returns false'. Refute it at one input. -/
def wellMendWrong : ChangeSpec := { name := "wellMend", fn := fun _ => fun
  | [d] => { results := [.lit (.bool false)], args := [d] }
  | _ => none }
def WellMendWrongFalsely : Prop := wellMendRow.holds Try.pinned (OpenSpec.ofChange wellMendWrong)

/-- 'seedlinglaw15.WellIdle': WHATEVER THE INPUT: true; the input reads as it did. -/
def wellIdleSpec : ChangeSpec := { name := "wellIdle", fn := fun _ => fun
  | [d] => { results := [.lit (.bool true)], args := [d] }
  | _ => none }
def wellIdleRow : OpenClaim := { program := "ytjelgmdjmjnnfaa", sum := "857cac2b66839be40d1843c6e3da144f89741c65ef706c1b22a8fa7011ca25a8", func := "seedling/seedlinglaw15.WellIdle", spec := "wellIdle", unfollowed := true, recurses := true, apart := false }
def WellIdleSaid : Prop := wellIdleRow.holds Try.pinned (OpenSpec.ofChange wellIdleSpec)

/-- ITS FALSE NEIGHBOUR: 'it returns false'. Refute it at one input. -/
def wellIdleWrong : ChangeSpec := { name := "wellIdle", fn := fun _ => fun
  | [d] => { results := [.lit (.bool false)], args := [d] }
  | _ => none }
def WellIdleWrongFalsely : Prop := wellIdleRow.holds Try.pinned (OpenSpec.ofChange wellIdleWrong)

/-- 'seedlinglaw15.WellMore': WHATEVER THE INPUT: true; the input reads as it did. -/
def wellMoreSpec : ChangeSpec := { name := "wellMore", fn := fun _ => fun
  | [d1, d2] => { results := [.lit (.bool true)], args := [d1, d2] }
  | _ => none }
def wellMoreRow : OpenClaim := { program := "ytjelgmdjmjnnfaa", sum := "857cac2b66839be40d1843c6e3da144f89741c65ef706c1b22a8fa7011ca25a8", func := "seedling/seedlinglaw15.WellMore", spec := "wellMore", unfollowed := true, recurses := true, apart := false }
def WellMoreSaid : Prop := wellMoreRow.holds Try.pinned (OpenSpec.ofChange wellMoreSpec)

/-- ITS FALSE NEIGHBOUR: 'it returns false'. Refute it at one input. -/
def wellMoreWrong : ChangeSpec := { name := "wellMore", fn := fun _ => fun
  | [d1, d2] => { results := [.lit (.bool false)], args := [d1, d2] }
  | _ => none }
def WellMoreWrongFalsely : Prop := wellMoreRow.holds Try.pinned (OpenSpec.ofChange wellMoreWrong)

/- THE SECOND FORM. 'bulk': how many values and letters a reading holds, each counted each time it is reached (what is shared counts as often as it is met; a slice's spare places count too). A statement '..UptoSaid' is the law's where the arguments, and the package variables that the reading takes, are together of bulk at most 1048576: NARROWER than '..Said'. Prove '..Said' where nothing that the law and all that it calls make is longer than what came in: it says more and counts as full. Else prove '..UptoSaid'. A law counts once. -/
mutual
def uptoBulk {H : Type} : DataW H → Nat
  | .lit (.string bytes) => bytes.length + 1
  | .lit _ => 1
  | .nil => 1
  | .ptr d => uptoBulk d + 1
  | .slice elems spare => uptoBulkAll elems + uptoBulkAll spare + 1
  | .agg parts => uptoBulkAll parts + 1
  | .iface _ d => uptoBulk d + 1
  | .map entries => uptoBulkEntries entries + 1
  | .held _ => 1
def uptoBulkAll {H : Type} : List (DataW H) → Nat
  | [] => 0
  | d :: r => uptoBulk d + uptoBulkAll r
def uptoBulkEntries {H : Type} : List (Lit × DataW H) → Nat
  | [] => 0
  | x :: r => uptoBulkEntry x + uptoBulkEntries r
def uptoBulkEntry {H : Type} : Lit × DataW H → Nat
  | (.string bytes, d) => bytes.length + uptoBulk d + 1
  | (_, d) => uptoBulk d + 1
 end
def uptoSmall : (H : Type) → List (DataW H) → Bool := fun _ ds => decide (uptoBulkAll ds ≤ 1048576)
def OpenSpec.upto (s : _root_.Go.ChangeSpec) : _root_.Go.OpenSpec := { _root_.Go.OpenSpec.ofChange s with cond := some uptoSmall }

/-- 'seedlinglaw15.WellMend', WHERE WHAT IT READS IS OF BULK AT MOST 1048576: true; the input reads as it did. -/
def wellMendUptoRow : OpenClaim := { program := "ytjelgmdjmjnnfaa", sum := "857cac2b66839be40d1843c6e3da144f89741c65ef706c1b22a8fa7011ca25a8", func := "seedling/seedlinglaw15.WellMend", spec := "wellMend", unfollowed := true, recurses := true, apart := false, narrowed := true }
def WellMendUptoSaid : Prop := wellMendUptoRow.holds Try.pinned (OpenSpec.upto wellMendSpec)

/-- 'seedlinglaw15.WellIdle', WHERE WHAT IT READS IS OF BULK AT MOST 1048576: true; the input reads as it did. -/
def wellIdleUptoRow : OpenClaim := { program := "ytjelgmdjmjnnfaa", sum := "857cac2b66839be40d1843c6e3da144f89741c65ef706c1b22a8fa7011ca25a8", func := "seedling/seedlinglaw15.WellIdle", spec := "wellIdle", unfollowed := true, recurses := true, apart := false, narrowed := true }
def WellIdleUptoSaid : Prop := wellIdleUptoRow.holds Try.pinned (OpenSpec.upto wellIdleSpec)

/-- 'seedlinglaw15.WellMore', WHERE WHAT IT READS IS OF BULK AT MOST 1048576: true; the input reads as it did. -/
def wellMoreUptoRow : OpenClaim := { program := "ytjelgmdjmjnnfaa", sum := "857cac2b66839be40d1843c6e3da144f89741c65ef706c1b22a8fa7011ca25a8", func := "seedling/seedlinglaw15.WellMore", spec := "wellMore", unfollowed := true, recurses := true, apart := false, narrowed := true }
def WellMoreUptoSaid : Prop := wellMoreUptoRow.holds Try.pinned (OpenSpec.upto wellMoreSpec)

end Rows
end Go.Proofs.Ytjelgmdjmjnnfaa

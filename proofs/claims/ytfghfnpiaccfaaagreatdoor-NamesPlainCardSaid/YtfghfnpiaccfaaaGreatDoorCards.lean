/-
  DERIVED. GIVEN WITH THE SEED: THE CARDS: each row of YtfghfnpiaccfaaaGreatDoorRows.lean that lists a variable, with what it lists TIED to the program's text (the seventh form; the later family's looks); each row that meets fmt, with fmt's text TOLD by the authors' own Lean function (tested against real Go, not proved from fmt's source: count such statements apart). THE CARD IS WHAT COUNTS. Prove the row's statement (the work); the ties are given (YtfghfnpiaccfaaaGreatDoorTie.lean); close each card by the builder's one call (the guide's Derived/Test/ToyasCard.lean, 'card_holds'). Laid BY PROGRAM, IN A SANDBOX (cutbox-door.mjs). By AI agents, Wed Nov 11 2026. No macro, syntax, notation, axiom, sorry.
-/
import Derived.Test.YtfghfnpiaccfaaaGreatDoorRows
import GoSem.ClaimSeven
namespace Go.Proofs.YtfghfnpiaccfaaaGreatDoor
namespace Rows

/-- THE TIED CARD OF 'seedlinglaw09.ShowBack'. -/
def showBackCard : Claim7 := { stood := { row := showBackRow, standIns := [], harness := (true, "fe35d73a129ea8bad31b32dc39b1993413dba827bcb595e7b00ed93a0991d297"), looks := true }, kinds := [], alts := [], laidByText := true, laidKinds := [.data, .data, .data, .sentinel, .sentinel], laidTests := true, laidLooks := .later }
def ShowBackCardSaid : Prop := Claim7.holds Tryz.pinned (.plain (OpenSpec.ofChange showBackSpec)) showBackCard

/-- THE TIED CARD OF 'seedlinglaw10.NamesTells'. -/
def namesTellsCard : Claim7 := { stood := { row := namesTellsRow, standIns := [], harness := (true, "fe35d73a129ea8bad31b32dc39b1993413dba827bcb595e7b00ed93a0991d297"), looks := true }, kinds := [], alts := [], laidByText := true, laidKinds := [.data, .data, .data, .sentinel, .sentinel], laidTests := true, laidLooks := .later }
def NamesTellsCardSaid : Prop := Claim7.holds Tryz.pinned (.plain (OpenSpec.ofChange namesTellsSpec)) namesTellsCard

/-- THE TIED CARD OF 'seedlinglaw10.NamesCalls'. -/
def namesCallsCard : Claim7 := { stood := { row := namesCallsRow, standIns := [], harness := (true, "fe35d73a129ea8bad31b32dc39b1993413dba827bcb595e7b00ed93a0991d297"), looks := true }, kinds := [], alts := [], laidByText := true, laidKinds := [.data, .data, .data, .sentinel, .sentinel], laidTests := true, laidLooks := .later }
def NamesCallsCardSaid : Prop := Claim7.holds Tryz.pinned (.plain (OpenSpec.ofChange namesCallsSpec)) namesCallsCard

/-- THE TIED CARD OF 'seedlinglaw10.NamesEnds'. -/
def namesEndsCard : Claim7 := { stood := { row := namesEndsRow, standIns := [], harness := (true, "fe35d73a129ea8bad31b32dc39b1993413dba827bcb595e7b00ed93a0991d297"), looks := true }, kinds := [], alts := [], laidByText := true, laidKinds := [.data, .data, .data, .sentinel, .sentinel], laidTests := true, laidLooks := .later }
def NamesEndsCardSaid : Prop := Claim7.holds Tryz.pinned (.plain (OpenSpec.ofChange namesEndsSpec)) namesEndsCard

/-- THE TIED CARD OF 'seedlinglaw10.NamesBack'. -/
def namesBackCard : Claim7 := { stood := { row := namesBackRow, standIns := [], harness := (true, "fe35d73a129ea8bad31b32dc39b1993413dba827bcb595e7b00ed93a0991d297"), looks := true }, kinds := [], alts := [], laidByText := true, laidKinds := [.data, .data, .data, .sentinel, .sentinel], laidTests := true, laidLooks := .later }
def NamesBackCardSaid : Prop := Claim7.holds Tryz.pinned (.plain (OpenSpec.ofChange namesBackSpec)) namesBackCard

/-- THE TIED CARD OF 'seedlinglaw10.NamesReach'. -/
def namesReachCard : Claim7 := { stood := { row := namesReachRow, standIns := [], harness := (true, "fe35d73a129ea8bad31b32dc39b1993413dba827bcb595e7b00ed93a0991d297"), looks := true }, kinds := [], alts := [], laidByText := true, laidKinds := [.data, .data, .data, .sentinel, .sentinel], laidTests := true, laidLooks := .later }
def NamesReachCardSaid : Prop := Claim7.holds Tryz.pinned (.plain (OpenSpec.ofChange namesReachSpec)) namesReachCard

/-- THE TIED CARD OF 'seedlinglaw10.NamesPlain'. -/
def namesPlainCard : Claim7 := { stood := { row := namesPlainRow, standIns := [], harness := (true, "fe35d73a129ea8bad31b32dc39b1993413dba827bcb595e7b00ed93a0991d297"), looks := true }, kinds := [], alts := [], laidByText := true, laidKinds := [.data, .data, .data, .sentinel, .sentinel], laidTests := true, laidLooks := .later }
def NamesPlainCardSaid : Prop := Claim7.holds Tryz.pinned (.plain (OpenSpec.ofChange namesPlainSpec)) namesPlainCard

/-- THE SECOND FORM's CARD OF 'seedlinglaw09.ShowBack'. -/
def showBackUptoCard : Claim7 := { stood := { row := showBackUptoRow, standIns := [], harness := (true, "fe35d73a129ea8bad31b32dc39b1993413dba827bcb595e7b00ed93a0991d297"), looks := true }, kinds := [], alts := [], laidByText := true, laidKinds := [.data, .data, .data, .sentinel, .sentinel], laidTests := true, laidLooks := .later }
def ShowBackUptoCardSaid : Prop := Claim7.holds Tryz.pinned (.plain (OpenSpec.upto showBackSpec)) showBackUptoCard

/-- THE SECOND FORM's CARD OF 'seedlinglaw10.NamesTells'. -/
def namesTellsUptoCard : Claim7 := { stood := { row := namesTellsUptoRow, standIns := [], harness := (true, "fe35d73a129ea8bad31b32dc39b1993413dba827bcb595e7b00ed93a0991d297"), looks := true }, kinds := [], alts := [], laidByText := true, laidKinds := [.data, .data, .data, .sentinel, .sentinel], laidTests := true, laidLooks := .later }
def NamesTellsUptoCardSaid : Prop := Claim7.holds Tryz.pinned (.plain (OpenSpec.upto namesTellsSpec)) namesTellsUptoCard

/-- THE SECOND FORM's CARD OF 'seedlinglaw10.NamesCalls'. -/
def namesCallsUptoCard : Claim7 := { stood := { row := namesCallsUptoRow, standIns := [], harness := (true, "fe35d73a129ea8bad31b32dc39b1993413dba827bcb595e7b00ed93a0991d297"), looks := true }, kinds := [], alts := [], laidByText := true, laidKinds := [.data, .data, .data, .sentinel, .sentinel], laidTests := true, laidLooks := .later }
def NamesCallsUptoCardSaid : Prop := Claim7.holds Tryz.pinned (.plain (OpenSpec.upto namesCallsSpec)) namesCallsUptoCard

/-- THE SECOND FORM's CARD OF 'seedlinglaw10.NamesEnds'. -/
def namesEndsUptoCard : Claim7 := { stood := { row := namesEndsUptoRow, standIns := [], harness := (true, "fe35d73a129ea8bad31b32dc39b1993413dba827bcb595e7b00ed93a0991d297"), looks := true }, kinds := [], alts := [], laidByText := true, laidKinds := [.data, .data, .data, .sentinel, .sentinel], laidTests := true, laidLooks := .later }
def NamesEndsUptoCardSaid : Prop := Claim7.holds Tryz.pinned (.plain (OpenSpec.upto namesEndsSpec)) namesEndsUptoCard

/-- THE SECOND FORM's CARD OF 'seedlinglaw10.NamesBack'. -/
def namesBackUptoCard : Claim7 := { stood := { row := namesBackUptoRow, standIns := [], harness := (true, "fe35d73a129ea8bad31b32dc39b1993413dba827bcb595e7b00ed93a0991d297"), looks := true }, kinds := [], alts := [], laidByText := true, laidKinds := [.data, .data, .data, .sentinel, .sentinel], laidTests := true, laidLooks := .later }
def NamesBackUptoCardSaid : Prop := Claim7.holds Tryz.pinned (.plain (OpenSpec.upto namesBackSpec)) namesBackUptoCard

/-- THE SECOND FORM's CARD OF 'seedlinglaw10.NamesReach'. -/
def namesReachUptoCard : Claim7 := { stood := { row := namesReachUptoRow, standIns := [], harness := (true, "fe35d73a129ea8bad31b32dc39b1993413dba827bcb595e7b00ed93a0991d297"), looks := true }, kinds := [], alts := [], laidByText := true, laidKinds := [.data, .data, .data, .sentinel, .sentinel], laidTests := true, laidLooks := .later }
def NamesReachUptoCardSaid : Prop := Claim7.holds Tryz.pinned (.plain (OpenSpec.upto namesReachSpec)) namesReachUptoCard

/-- THE SECOND FORM's CARD OF 'seedlinglaw10.NamesPlain'. -/
def namesPlainUptoCard : Claim7 := { stood := { row := namesPlainUptoRow, standIns := [], harness := (true, "fe35d73a129ea8bad31b32dc39b1993413dba827bcb595e7b00ed93a0991d297"), looks := true }, kinds := [], alts := [], laidByText := true, laidKinds := [.data, .data, .data, .sentinel, .sentinel], laidTests := true, laidLooks := .later }
def NamesPlainUptoCardSaid : Prop := Claim7.holds Tryz.pinned (.plain (OpenSpec.upto namesPlainSpec)) namesPlainUptoCard
end Rows
end Go.Proofs.YtfghfnpiaccfaaaGreatDoor

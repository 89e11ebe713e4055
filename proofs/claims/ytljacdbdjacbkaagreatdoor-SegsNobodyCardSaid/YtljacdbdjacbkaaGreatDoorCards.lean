/-
  DERIVED. GIVEN WITH THE SEED: THE CARDS: each row of YtljacdbdjacbkaaGreatDoorRows.lean that lists a variable, with what it lists TIED to the program's text (the seventh form; the later family's looks); each row that meets fmt, with fmt's text TOLD by the authors' own Lean function (tested against real Go, not proved from fmt's source: count such statements apart). THE CARD IS WHAT COUNTS. Prove the row's statement (the work); the ties are given (YtljacdbdjacbkaaGreatDoorTie.lean); close each card by the builder's one call (the guide's Derived/Test/ToyasCard.lean, 'card_holds'). Laid BY PROGRAM, IN A SANDBOX (cutbox-door.mjs). By AI agents, Wed Nov 11 2026. No macro, syntax, notation, axiom, sorry.
-/
import Derived.Test.YtljacdbdjacbkaaGreatDoorRows
import GoSem.ClaimSeven
namespace Go.Proofs.YtljacdbdjacbkaaGreatDoor
namespace Rows

/-- THE TIED CARD OF 'hoardlaw14.SegsPlays'. -/
def segsPlaysCard : Claim7 := { stood := { row := segsPlaysRow, standIns := [], harness := (true, "719182e4d8afbe8a44e34bd6a2c31fa680e883f62c9026b56a9fdf63b3080bc5"), looks := true }, kinds := [], alts := [], laidByText := true, laidKinds := [.data, .data, .data, .data, .data, .sentinel, .sentinel], laidTests := true, laidLooks := .later }
def SegsPlaysCardSaid : Prop := Claim7.holds Tryz.pinned (.plain (OpenSpec.ofChange segsPlaysSpec)) segsPlaysCard

/-- THE TIED CARD OF 'hoardlaw14.SegsKept'. -/
def segsKeptCard : Claim7 := { stood := { row := segsKeptRow, standIns := [], harness := (true, "719182e4d8afbe8a44e34bd6a2c31fa680e883f62c9026b56a9fdf63b3080bc5"), looks := true }, kinds := [], alts := [], laidByText := true, laidKinds := [.data, .data, .data, .data, .data, .sentinel, .sentinel], laidTests := true, laidLooks := .later }
def SegsKeptCardSaid : Prop := Claim7.holds Tryz.pinned (.plain (OpenSpec.ofChange segsKeptSpec)) segsKeptCard

/-- THE TIED CARD OF 'hoardlaw14.SegsWhole'. -/
def segsWholeCard : Claim7 := { stood := { row := segsWholeRow, standIns := [], harness := (true, "719182e4d8afbe8a44e34bd6a2c31fa680e883f62c9026b56a9fdf63b3080bc5"), looks := true }, kinds := [], alts := [], laidByText := true, laidKinds := [.data, .data, .data, .data, .data, .sentinel, .sentinel], laidTests := true, laidLooks := .later }
def SegsWholeCardSaid : Prop := Claim7.holds Tryz.pinned (.plain (OpenSpec.ofChange segsWholeSpec)) segsWholeCard

/-- THE TIED CARD OF 'hoardlaw14.SegsFull'. -/
def segsFullCard : Claim7 := { stood := { row := segsFullRow, standIns := [], harness := (true, "719182e4d8afbe8a44e34bd6a2c31fa680e883f62c9026b56a9fdf63b3080bc5"), looks := true }, kinds := [], alts := [], laidByText := true, laidKinds := [.data, .data, .data, .data, .data, .sentinel, .sentinel], laidTests := true, laidLooks := .later }
def SegsFullCardSaid : Prop := Claim7.holds Tryz.pinned (.plain (OpenSpec.ofChange segsFullSpec)) segsFullCard

/-- THE TIED CARD OF 'hoardlaw14.SegsNames'. -/
def segsNamesCard : Claim7 := { stood := { row := segsNamesRow, standIns := [], harness := (true, "719182e4d8afbe8a44e34bd6a2c31fa680e883f62c9026b56a9fdf63b3080bc5"), looks := true }, kinds := [], alts := [], laidByText := true, laidKinds := [.data, .data, .data, .data, .data, .sentinel, .sentinel], laidTests := true, laidLooks := .later }
def SegsNamesCardSaid : Prop := Claim7.holds Tryz.pinned (.plain (OpenSpec.ofChange segsNamesSpec)) segsNamesCard

/-- THE TIED CARD OF 'hoardlaw14.SegsNobody'. -/
def segsNobodyCard : Claim7 := { stood := { row := segsNobodyRow, standIns := [], harness := (true, "719182e4d8afbe8a44e34bd6a2c31fa680e883f62c9026b56a9fdf63b3080bc5"), looks := true }, kinds := [], alts := [], laidByText := true, laidKinds := [.data, .data, .data, .data, .data, .sentinel, .sentinel], laidTests := true, laidLooks := .later }
def SegsNobodyCardSaid : Prop := Claim7.holds Tryz.pinned (.plain (OpenSpec.ofChange segsNobodySpec)) segsNobodyCard

/-- THE SECOND FORM's CARD OF 'hoardlaw14.SegsPlays'. -/
def segsPlaysUptoCard : Claim7 := { stood := { row := segsPlaysUptoRow, standIns := [], harness := (true, "719182e4d8afbe8a44e34bd6a2c31fa680e883f62c9026b56a9fdf63b3080bc5"), looks := true }, kinds := [], alts := [], laidByText := true, laidKinds := [.data, .data, .data, .data, .data, .sentinel, .sentinel], laidTests := true, laidLooks := .later }
def SegsPlaysUptoCardSaid : Prop := Claim7.holds Tryz.pinned (.plain (OpenSpec.upto segsPlaysSpec)) segsPlaysUptoCard

/-- THE SECOND FORM's CARD OF 'hoardlaw14.SegsKept'. -/
def segsKeptUptoCard : Claim7 := { stood := { row := segsKeptUptoRow, standIns := [], harness := (true, "719182e4d8afbe8a44e34bd6a2c31fa680e883f62c9026b56a9fdf63b3080bc5"), looks := true }, kinds := [], alts := [], laidByText := true, laidKinds := [.data, .data, .data, .data, .data, .sentinel, .sentinel], laidTests := true, laidLooks := .later }
def SegsKeptUptoCardSaid : Prop := Claim7.holds Tryz.pinned (.plain (OpenSpec.upto segsKeptSpec)) segsKeptUptoCard

/-- THE SECOND FORM's CARD OF 'hoardlaw14.SegsWhole'. -/
def segsWholeUptoCard : Claim7 := { stood := { row := segsWholeUptoRow, standIns := [], harness := (true, "719182e4d8afbe8a44e34bd6a2c31fa680e883f62c9026b56a9fdf63b3080bc5"), looks := true }, kinds := [], alts := [], laidByText := true, laidKinds := [.data, .data, .data, .data, .data, .sentinel, .sentinel], laidTests := true, laidLooks := .later }
def SegsWholeUptoCardSaid : Prop := Claim7.holds Tryz.pinned (.plain (OpenSpec.upto segsWholeSpec)) segsWholeUptoCard

/-- THE SECOND FORM's CARD OF 'hoardlaw14.SegsFull'. -/
def segsFullUptoCard : Claim7 := { stood := { row := segsFullUptoRow, standIns := [], harness := (true, "719182e4d8afbe8a44e34bd6a2c31fa680e883f62c9026b56a9fdf63b3080bc5"), looks := true }, kinds := [], alts := [], laidByText := true, laidKinds := [.data, .data, .data, .data, .data, .sentinel, .sentinel], laidTests := true, laidLooks := .later }
def SegsFullUptoCardSaid : Prop := Claim7.holds Tryz.pinned (.plain (OpenSpec.upto segsFullSpec)) segsFullUptoCard

/-- THE SECOND FORM's CARD OF 'hoardlaw14.SegsNames'. -/
def segsNamesUptoCard : Claim7 := { stood := { row := segsNamesUptoRow, standIns := [], harness := (true, "719182e4d8afbe8a44e34bd6a2c31fa680e883f62c9026b56a9fdf63b3080bc5"), looks := true }, kinds := [], alts := [], laidByText := true, laidKinds := [.data, .data, .data, .data, .data, .sentinel, .sentinel], laidTests := true, laidLooks := .later }
def SegsNamesUptoCardSaid : Prop := Claim7.holds Tryz.pinned (.plain (OpenSpec.upto segsNamesSpec)) segsNamesUptoCard

/-- THE SECOND FORM's CARD OF 'hoardlaw14.SegsNobody'. -/
def segsNobodyUptoCard : Claim7 := { stood := { row := segsNobodyUptoRow, standIns := [], harness := (true, "719182e4d8afbe8a44e34bd6a2c31fa680e883f62c9026b56a9fdf63b3080bc5"), looks := true }, kinds := [], alts := [], laidByText := true, laidKinds := [.data, .data, .data, .data, .data, .sentinel, .sentinel], laidTests := true, laidLooks := .later }
def SegsNobodyUptoCardSaid : Prop := Claim7.holds Tryz.pinned (.plain (OpenSpec.upto segsNobodySpec)) segsNobodyUptoCard
end Rows
end Go.Proofs.YtljacdbdjacbkaaGreatDoor

/-
  DERIVED. GIVEN WITH THE SEED: THE CARDS: each row of YtfneloobfidckaaGreatDoorRows.lean that lists a variable, with what it lists TIED to the program's text (the seventh form; the later family's looks); each row that meets fmt, with fmt's text TOLD by the authors' own Lean function (tested against real Go, not proved from fmt's source: count such statements apart). THE CARD IS WHAT COUNTS. Prove the row's statement (the work); the ties are given (YtfneloobfidckaaGreatDoorTie.lean); close each card by the builder's one call (the guide's Derived/Test/ToyasCard.lean, 'card_holds'). Laid BY PROGRAM, IN A SANDBOX (cutbox-door.mjs). By AI agents, Wed Nov 11 2026. No macro, syntax, notation, axiom, sorry.
-/
import Derived.Test.YtfneloobfidckaaGreatDoorRows
import GoSem.ClaimSeven
namespace Go.Proofs.YtfneloobfidckaaGreatDoor
namespace Rows

/-- THE TIED CARD OF 'hoardlaw14.SegsPlays'. -/
def segsPlaysCard : Claim7 := { stood := { row := segsPlaysRow, standIns := [], harness := (true, "a87e2abf56d52698afae6dca50bd273bbb0021a5125ad997e4e4229df3365021"), looks := true }, kinds := [], alts := [], laidByText := true, laidKinds := [.data, .data, .data, .data, .data, .sentinel, .sentinel], laidTests := true, laidLooks := .later }
def SegsPlaysCardSaid : Prop := Claim7.holds Tryz.pinned (.plain (OpenSpec.ofChange segsPlaysSpec)) segsPlaysCard

/-- THE TIED CARD OF 'hoardlaw14.SegsKept'. -/
def segsKeptCard : Claim7 := { stood := { row := segsKeptRow, standIns := [], harness := (true, "a87e2abf56d52698afae6dca50bd273bbb0021a5125ad997e4e4229df3365021"), looks := true }, kinds := [], alts := [], laidByText := true, laidKinds := [.data, .data, .data, .data, .data, .sentinel, .sentinel], laidTests := true, laidLooks := .later }
def SegsKeptCardSaid : Prop := Claim7.holds Tryz.pinned (.plain (OpenSpec.ofChange segsKeptSpec)) segsKeptCard

/-- THE TIED CARD OF 'hoardlaw14.SegsWhole'. -/
def segsWholeCard : Claim7 := { stood := { row := segsWholeRow, standIns := [], harness := (true, "a87e2abf56d52698afae6dca50bd273bbb0021a5125ad997e4e4229df3365021"), looks := true }, kinds := [], alts := [], laidByText := true, laidKinds := [.data, .data, .data, .data, .data, .sentinel, .sentinel], laidTests := true, laidLooks := .later }
def SegsWholeCardSaid : Prop := Claim7.holds Tryz.pinned (.plain (OpenSpec.ofChange segsWholeSpec)) segsWholeCard

/-- THE TIED CARD OF 'hoardlaw14.SegsFull'. -/
def segsFullCard : Claim7 := { stood := { row := segsFullRow, standIns := [], harness := (true, "a87e2abf56d52698afae6dca50bd273bbb0021a5125ad997e4e4229df3365021"), looks := true }, kinds := [], alts := [], laidByText := true, laidKinds := [.data, .data, .data, .data, .data, .sentinel, .sentinel], laidTests := true, laidLooks := .later }
def SegsFullCardSaid : Prop := Claim7.holds Tryz.pinned (.plain (OpenSpec.ofChange segsFullSpec)) segsFullCard

/-- THE TIED CARD OF 'hoardlaw15.ReplayRuns'. -/
def replayRunsCard : Claim7 := { stood := { row := replayRunsRow, standIns := [], harness := (true, "a87e2abf56d52698afae6dca50bd273bbb0021a5125ad997e4e4229df3365021"), looks := true }, kinds := [], alts := [], laidByText := true, laidKinds := [.data, .data, .data, .data, .data, .sentinel, .sentinel], laidTests := true, laidLooks := .later }
def ReplayRunsCardSaid : Prop := Claim7.holds Tryz.pinned (.plain (OpenSpec.ofChange replayRunsSpec)) replayRunsCard

/-- THE TIED CARD OF 'hoardlaw15.ReplayDrops'. -/
def replayDropsCard : Claim7 := { stood := { row := replayDropsRow, standIns := [], harness := (true, "a87e2abf56d52698afae6dca50bd273bbb0021a5125ad997e4e4229df3365021"), looks := true }, kinds := [], alts := [], laidByText := true, laidKinds := [.data, .data, .data, .data, .data, .sentinel, .sentinel], laidTests := true, laidLooks := .later }
def ReplayDropsCardSaid : Prop := Claim7.holds Tryz.pinned (.plain (OpenSpec.ofChange replayDropsSpec)) replayDropsCard

/-- THE TIED CARD OF 'hoardlaw15.ReplayLast'. -/
def replayLastCard : Claim7 := { stood := { row := replayLastRow, standIns := [], harness := (true, "a87e2abf56d52698afae6dca50bd273bbb0021a5125ad997e4e4229df3365021"), looks := true }, kinds := [], alts := [], laidByText := true, laidKinds := [.data, .data, .data, .data, .data, .sentinel, .sentinel], laidTests := true, laidLooks := .later }
def ReplayLastCardSaid : Prop := Claim7.holds Tryz.pinned (.plain (OpenSpec.ofChange replayLastSpec)) replayLastCard

/-- THE TIED CARD OF 'hoardlaw15.ReplayOpen'. -/
def replayOpenCard : Claim7 := { stood := { row := replayOpenRow, standIns := [], harness := (true, "a87e2abf56d52698afae6dca50bd273bbb0021a5125ad997e4e4229df3365021"), looks := true }, kinds := [], alts := [], laidByText := true, laidKinds := [.data, .data, .data, .data, .data, .sentinel, .sentinel], laidTests := true, laidLooks := .later }
def ReplayOpenCardSaid : Prop := Claim7.holds Tryz.pinned (.plain (OpenSpec.ofChange replayOpenSpec)) replayOpenCard

/-- THE TIED CARD OF 'hoardlaw15.ReplayLive'. -/
def replayLiveCard : Claim7 := { stood := { row := replayLiveRow, standIns := [], harness := (true, "a87e2abf56d52698afae6dca50bd273bbb0021a5125ad997e4e4229df3365021"), looks := true }, kinds := [], alts := [], laidByText := true, laidKinds := [.data, .data, .data, .data, .data, .sentinel, .sentinel], laidTests := true, laidLooks := .later }
def ReplayLiveCardSaid : Prop := Claim7.holds Tryz.pinned (.plain (OpenSpec.ofChange replayLiveSpec)) replayLiveCard

/-- THE TIED CARD OF 'hoardlaw15.ReplayCrash'. -/
def replayCrashCard : Claim7 := { stood := { row := replayCrashRow, standIns := [], harness := (true, "a87e2abf56d52698afae6dca50bd273bbb0021a5125ad997e4e4229df3365021"), looks := true }, kinds := [], alts := [], laidByText := true, laidKinds := [.data, .data, .data, .data, .data, .sentinel, .sentinel], laidTests := true, laidLooks := .later }
def ReplayCrashCardSaid : Prop := Claim7.holds Tryz.pinned (.plain (OpenSpec.ofChange replayCrashSpec)) replayCrashCard

/-- THE TIED CARD OF 'hoardlaw15.ReplayPlays'. -/
def replayPlaysCard : Claim7 := { stood := { row := replayPlaysRow, standIns := [], harness := (true, "a87e2abf56d52698afae6dca50bd273bbb0021a5125ad997e4e4229df3365021"), looks := true }, kinds := [], alts := [], laidByText := true, laidKinds := [.data, .data, .data, .data, .data, .sentinel, .sentinel], laidTests := true, laidLooks := .later }
def ReplayPlaysCardSaid : Prop := Claim7.holds Tryz.pinned (.plain (OpenSpec.ofChange replayPlaysSpec)) replayPlaysCard

/-- THE SECOND FORM's CARD OF 'hoardlaw14.SegsPlays'. -/
def segsPlaysUptoCard : Claim7 := { stood := { row := segsPlaysUptoRow, standIns := [], harness := (true, "a87e2abf56d52698afae6dca50bd273bbb0021a5125ad997e4e4229df3365021"), looks := true }, kinds := [], alts := [], laidByText := true, laidKinds := [.data, .data, .data, .data, .data, .sentinel, .sentinel], laidTests := true, laidLooks := .later }
def SegsPlaysUptoCardSaid : Prop := Claim7.holds Tryz.pinned (.plain (OpenSpec.upto segsPlaysSpec)) segsPlaysUptoCard

/-- THE SECOND FORM's CARD OF 'hoardlaw14.SegsKept'. -/
def segsKeptUptoCard : Claim7 := { stood := { row := segsKeptUptoRow, standIns := [], harness := (true, "a87e2abf56d52698afae6dca50bd273bbb0021a5125ad997e4e4229df3365021"), looks := true }, kinds := [], alts := [], laidByText := true, laidKinds := [.data, .data, .data, .data, .data, .sentinel, .sentinel], laidTests := true, laidLooks := .later }
def SegsKeptUptoCardSaid : Prop := Claim7.holds Tryz.pinned (.plain (OpenSpec.upto segsKeptSpec)) segsKeptUptoCard

/-- THE SECOND FORM's CARD OF 'hoardlaw14.SegsWhole'. -/
def segsWholeUptoCard : Claim7 := { stood := { row := segsWholeUptoRow, standIns := [], harness := (true, "a87e2abf56d52698afae6dca50bd273bbb0021a5125ad997e4e4229df3365021"), looks := true }, kinds := [], alts := [], laidByText := true, laidKinds := [.data, .data, .data, .data, .data, .sentinel, .sentinel], laidTests := true, laidLooks := .later }
def SegsWholeUptoCardSaid : Prop := Claim7.holds Tryz.pinned (.plain (OpenSpec.upto segsWholeSpec)) segsWholeUptoCard

/-- THE SECOND FORM's CARD OF 'hoardlaw14.SegsFull'. -/
def segsFullUptoCard : Claim7 := { stood := { row := segsFullUptoRow, standIns := [], harness := (true, "a87e2abf56d52698afae6dca50bd273bbb0021a5125ad997e4e4229df3365021"), looks := true }, kinds := [], alts := [], laidByText := true, laidKinds := [.data, .data, .data, .data, .data, .sentinel, .sentinel], laidTests := true, laidLooks := .later }
def SegsFullUptoCardSaid : Prop := Claim7.holds Tryz.pinned (.plain (OpenSpec.upto segsFullSpec)) segsFullUptoCard

/-- THE SECOND FORM's CARD OF 'hoardlaw15.ReplayRuns'. -/
def replayRunsUptoCard : Claim7 := { stood := { row := replayRunsUptoRow, standIns := [], harness := (true, "a87e2abf56d52698afae6dca50bd273bbb0021a5125ad997e4e4229df3365021"), looks := true }, kinds := [], alts := [], laidByText := true, laidKinds := [.data, .data, .data, .data, .data, .sentinel, .sentinel], laidTests := true, laidLooks := .later }
def ReplayRunsUptoCardSaid : Prop := Claim7.holds Tryz.pinned (.plain (OpenSpec.upto replayRunsSpec)) replayRunsUptoCard

/-- THE SECOND FORM's CARD OF 'hoardlaw15.ReplayDrops'. -/
def replayDropsUptoCard : Claim7 := { stood := { row := replayDropsUptoRow, standIns := [], harness := (true, "a87e2abf56d52698afae6dca50bd273bbb0021a5125ad997e4e4229df3365021"), looks := true }, kinds := [], alts := [], laidByText := true, laidKinds := [.data, .data, .data, .data, .data, .sentinel, .sentinel], laidTests := true, laidLooks := .later }
def ReplayDropsUptoCardSaid : Prop := Claim7.holds Tryz.pinned (.plain (OpenSpec.upto replayDropsSpec)) replayDropsUptoCard

/-- THE SECOND FORM's CARD OF 'hoardlaw15.ReplayLast'. -/
def replayLastUptoCard : Claim7 := { stood := { row := replayLastUptoRow, standIns := [], harness := (true, "a87e2abf56d52698afae6dca50bd273bbb0021a5125ad997e4e4229df3365021"), looks := true }, kinds := [], alts := [], laidByText := true, laidKinds := [.data, .data, .data, .data, .data, .sentinel, .sentinel], laidTests := true, laidLooks := .later }
def ReplayLastUptoCardSaid : Prop := Claim7.holds Tryz.pinned (.plain (OpenSpec.upto replayLastSpec)) replayLastUptoCard

/-- THE SECOND FORM's CARD OF 'hoardlaw15.ReplayOpen'. -/
def replayOpenUptoCard : Claim7 := { stood := { row := replayOpenUptoRow, standIns := [], harness := (true, "a87e2abf56d52698afae6dca50bd273bbb0021a5125ad997e4e4229df3365021"), looks := true }, kinds := [], alts := [], laidByText := true, laidKinds := [.data, .data, .data, .data, .data, .sentinel, .sentinel], laidTests := true, laidLooks := .later }
def ReplayOpenUptoCardSaid : Prop := Claim7.holds Tryz.pinned (.plain (OpenSpec.upto replayOpenSpec)) replayOpenUptoCard

/-- THE SECOND FORM's CARD OF 'hoardlaw15.ReplayLive'. -/
def replayLiveUptoCard : Claim7 := { stood := { row := replayLiveUptoRow, standIns := [], harness := (true, "a87e2abf56d52698afae6dca50bd273bbb0021a5125ad997e4e4229df3365021"), looks := true }, kinds := [], alts := [], laidByText := true, laidKinds := [.data, .data, .data, .data, .data, .sentinel, .sentinel], laidTests := true, laidLooks := .later }
def ReplayLiveUptoCardSaid : Prop := Claim7.holds Tryz.pinned (.plain (OpenSpec.upto replayLiveSpec)) replayLiveUptoCard

/-- THE SECOND FORM's CARD OF 'hoardlaw15.ReplayCrash'. -/
def replayCrashUptoCard : Claim7 := { stood := { row := replayCrashUptoRow, standIns := [], harness := (true, "a87e2abf56d52698afae6dca50bd273bbb0021a5125ad997e4e4229df3365021"), looks := true }, kinds := [], alts := [], laidByText := true, laidKinds := [.data, .data, .data, .data, .data, .sentinel, .sentinel], laidTests := true, laidLooks := .later }
def ReplayCrashUptoCardSaid : Prop := Claim7.holds Tryz.pinned (.plain (OpenSpec.upto replayCrashSpec)) replayCrashUptoCard

/-- THE SECOND FORM's CARD OF 'hoardlaw15.ReplayPlays'. -/
def replayPlaysUptoCard : Claim7 := { stood := { row := replayPlaysUptoRow, standIns := [], harness := (true, "a87e2abf56d52698afae6dca50bd273bbb0021a5125ad997e4e4229df3365021"), looks := true }, kinds := [], alts := [], laidByText := true, laidKinds := [.data, .data, .data, .data, .data, .sentinel, .sentinel], laidTests := true, laidLooks := .later }
def ReplayPlaysUptoCardSaid : Prop := Claim7.holds Tryz.pinned (.plain (OpenSpec.upto replayPlaysSpec)) replayPlaysUptoCard
end Rows
end Go.Proofs.YtfneloobfidckaaGreatDoor

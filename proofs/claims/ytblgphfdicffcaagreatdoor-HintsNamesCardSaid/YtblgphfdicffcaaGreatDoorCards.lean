/-
  DERIVED. GIVEN WITH THE SEED: THE CARDS: each row of YtblgphfdicffcaaGreatDoorRows.lean that lists a variable, with what it lists TIED to the program's text (the seventh form; the later family's looks); each row that meets fmt, with fmt's text TOLD by the authors' own Lean function (tested against real Go, not proved from fmt's source: count such statements apart). THE CARD IS WHAT COUNTS. Prove the row's statement (the work); the ties are given (YtblgphfdicffcaaGreatDoorTie.lean); close each card by the builder's one call (the guide's Derived/Test/ToyasCard.lean, 'card_holds'). Laid BY PROGRAM, IN A SANDBOX (cutbox-door.mjs). By AI agents, Wed Nov 11 2026. No macro, syntax, notation, axiom, sorry.
-/
import Derived.Test.YtblgphfdicffcaaGreatDoorRows
import GoSem.ClaimSeven
namespace Go.Proofs.YtblgphfdicffcaaGreatDoor
namespace Rows

/-- THE TIED CARD OF 'hoardlaw15.ReplayLast'. -/
def replayLastCard : Claim7 := { stood := { row := replayLastRow, standIns := [], harness := (true, "6b00f1d81ed2cb10339a93c5970a9d90385e13f72e22be33afdb980ea8a5020d"), looks := true }, kinds := [], alts := [], laidByText := true, laidKinds := [.data, .data, .data, .data, .data, .sentinel, .sentinel], laidTests := true, laidLooks := .later }
def ReplayLastCardSaid : Prop := Claim7.holds Tryz.pinned (.plain (OpenSpec.ofChange replayLastSpec)) replayLastCard

/-- THE TIED CARD OF 'hoardlaw15.ReplayOpen'. -/
def replayOpenCard : Claim7 := { stood := { row := replayOpenRow, standIns := [], harness := (true, "6b00f1d81ed2cb10339a93c5970a9d90385e13f72e22be33afdb980ea8a5020d"), looks := true }, kinds := [], alts := [], laidByText := true, laidKinds := [.data, .data, .data, .data, .data, .sentinel, .sentinel], laidTests := true, laidLooks := .later }
def ReplayOpenCardSaid : Prop := Claim7.holds Tryz.pinned (.plain (OpenSpec.ofChange replayOpenSpec)) replayOpenCard

/-- THE TIED CARD OF 'hoardlaw15.ReplayLive'. -/
def replayLiveCard : Claim7 := { stood := { row := replayLiveRow, standIns := [], harness := (true, "6b00f1d81ed2cb10339a93c5970a9d90385e13f72e22be33afdb980ea8a5020d"), looks := true }, kinds := [], alts := [], laidByText := true, laidKinds := [.data, .data, .data, .data, .data, .sentinel, .sentinel], laidTests := true, laidLooks := .later }
def ReplayLiveCardSaid : Prop := Claim7.holds Tryz.pinned (.plain (OpenSpec.ofChange replayLiveSpec)) replayLiveCard

/-- THE TIED CARD OF 'hoardlaw15.ReplayCrash'. -/
def replayCrashCard : Claim7 := { stood := { row := replayCrashRow, standIns := [], harness := (true, "6b00f1d81ed2cb10339a93c5970a9d90385e13f72e22be33afdb980ea8a5020d"), looks := true }, kinds := [], alts := [], laidByText := true, laidKinds := [.data, .data, .data, .data, .data, .sentinel, .sentinel], laidTests := true, laidLooks := .later }
def ReplayCrashCardSaid : Prop := Claim7.holds Tryz.pinned (.plain (OpenSpec.ofChange replayCrashSpec)) replayCrashCard

/-- THE TIED CARD OF 'hoardlaw16.HintsBack'. -/
def hintsBackCard : Claim7 := { stood := { row := hintsBackRow, standIns := [], harness := (true, "6b00f1d81ed2cb10339a93c5970a9d90385e13f72e22be33afdb980ea8a5020d"), looks := true }, kinds := [], alts := [], laidByText := true, laidKinds := [.data, .data, .data, .data, .data, .sentinel, .sentinel], laidTests := true, laidLooks := .later }
def HintsBackCardSaid : Prop := Claim7.holds Tryz.pinned (.plain (OpenSpec.ofChange hintsBackSpec)) hintsBackCard

/-- THE TIED CARD OF 'hoardlaw16.HintsCrash'. -/
def hintsCrashCard : Claim7 := { stood := { row := hintsCrashRow, standIns := [], harness := (true, "6b00f1d81ed2cb10339a93c5970a9d90385e13f72e22be33afdb980ea8a5020d"), looks := true }, kinds := [], alts := [], laidByText := true, laidKinds := [.data, .data, .data, .data, .data, .sentinel, .sentinel], laidTests := true, laidLooks := .later }
def HintsCrashCardSaid : Prop := Claim7.holds Tryz.pinned (.plain (OpenSpec.ofChange hintsCrashSpec)) hintsCrashCard

/-- THE TIED CARD OF 'hoardlaw16.HintsStale'. -/
def hintsStaleCard : Claim7 := { stood := { row := hintsStaleRow, standIns := [], harness := (true, "6b00f1d81ed2cb10339a93c5970a9d90385e13f72e22be33afdb980ea8a5020d"), looks := true }, kinds := [], alts := [], laidByText := true, laidKinds := [.data, .data, .data, .data, .data, .sentinel, .sentinel], laidTests := true, laidLooks := .later }
def HintsStaleCardSaid : Prop := Claim7.holds Tryz.pinned (.plain (OpenSpec.ofChange hintsStaleSpec)) hintsStaleCard

/-- THE TIED CARD OF 'hoardlaw16.HintsNames'. -/
def hintsNamesCard : Claim7 := { stood := { row := hintsNamesRow, standIns := [], harness := (true, "6b00f1d81ed2cb10339a93c5970a9d90385e13f72e22be33afdb980ea8a5020d"), looks := true }, kinds := [], alts := [], laidByText := true, laidKinds := [.data, .data, .data, .sentinel, .sentinel], laidTests := true, laidLooks := .later }
def HintsNamesCardSaid : Prop := Claim7.holds Tryz.pinned (.plain (OpenSpec.ofChange hintsNamesSpec)) hintsNamesCard

/-- THE TIED CARD OF 'hoardlaw16.HintsNobody'. -/
def hintsNobodyCard : Claim7 := { stood := { row := hintsNobodyRow, standIns := [], harness := (true, "6b00f1d81ed2cb10339a93c5970a9d90385e13f72e22be33afdb980ea8a5020d"), looks := true }, kinds := [], alts := [], laidByText := true, laidKinds := [.data, .data, .data, .sentinel, .sentinel], laidTests := true, laidLooks := .later }
def HintsNobodyCardSaid : Prop := Claim7.holds Tryz.pinned (.plain (OpenSpec.ofChange hintsNobodySpec)) hintsNobodyCard

/-- THE SECOND FORM's CARD OF 'hoardlaw15.ReplayLast'. -/
def replayLastUptoCard : Claim7 := { stood := { row := replayLastUptoRow, standIns := [], harness := (true, "6b00f1d81ed2cb10339a93c5970a9d90385e13f72e22be33afdb980ea8a5020d"), looks := true }, kinds := [], alts := [], laidByText := true, laidKinds := [.data, .data, .data, .data, .data, .sentinel, .sentinel], laidTests := true, laidLooks := .later }
def ReplayLastUptoCardSaid : Prop := Claim7.holds Tryz.pinned (.plain (OpenSpec.upto replayLastSpec)) replayLastUptoCard

/-- THE SECOND FORM's CARD OF 'hoardlaw15.ReplayOpen'. -/
def replayOpenUptoCard : Claim7 := { stood := { row := replayOpenUptoRow, standIns := [], harness := (true, "6b00f1d81ed2cb10339a93c5970a9d90385e13f72e22be33afdb980ea8a5020d"), looks := true }, kinds := [], alts := [], laidByText := true, laidKinds := [.data, .data, .data, .data, .data, .sentinel, .sentinel], laidTests := true, laidLooks := .later }
def ReplayOpenUptoCardSaid : Prop := Claim7.holds Tryz.pinned (.plain (OpenSpec.upto replayOpenSpec)) replayOpenUptoCard

/-- THE SECOND FORM's CARD OF 'hoardlaw15.ReplayLive'. -/
def replayLiveUptoCard : Claim7 := { stood := { row := replayLiveUptoRow, standIns := [], harness := (true, "6b00f1d81ed2cb10339a93c5970a9d90385e13f72e22be33afdb980ea8a5020d"), looks := true }, kinds := [], alts := [], laidByText := true, laidKinds := [.data, .data, .data, .data, .data, .sentinel, .sentinel], laidTests := true, laidLooks := .later }
def ReplayLiveUptoCardSaid : Prop := Claim7.holds Tryz.pinned (.plain (OpenSpec.upto replayLiveSpec)) replayLiveUptoCard

/-- THE SECOND FORM's CARD OF 'hoardlaw15.ReplayCrash'. -/
def replayCrashUptoCard : Claim7 := { stood := { row := replayCrashUptoRow, standIns := [], harness := (true, "6b00f1d81ed2cb10339a93c5970a9d90385e13f72e22be33afdb980ea8a5020d"), looks := true }, kinds := [], alts := [], laidByText := true, laidKinds := [.data, .data, .data, .data, .data, .sentinel, .sentinel], laidTests := true, laidLooks := .later }
def ReplayCrashUptoCardSaid : Prop := Claim7.holds Tryz.pinned (.plain (OpenSpec.upto replayCrashSpec)) replayCrashUptoCard

/-- THE SECOND FORM's CARD OF 'hoardlaw16.HintsBack'. -/
def hintsBackUptoCard : Claim7 := { stood := { row := hintsBackUptoRow, standIns := [], harness := (true, "6b00f1d81ed2cb10339a93c5970a9d90385e13f72e22be33afdb980ea8a5020d"), looks := true }, kinds := [], alts := [], laidByText := true, laidKinds := [.data, .data, .data, .data, .data, .sentinel, .sentinel], laidTests := true, laidLooks := .later }
def HintsBackUptoCardSaid : Prop := Claim7.holds Tryz.pinned (.plain (OpenSpec.upto hintsBackSpec)) hintsBackUptoCard

/-- THE SECOND FORM's CARD OF 'hoardlaw16.HintsCrash'. -/
def hintsCrashUptoCard : Claim7 := { stood := { row := hintsCrashUptoRow, standIns := [], harness := (true, "6b00f1d81ed2cb10339a93c5970a9d90385e13f72e22be33afdb980ea8a5020d"), looks := true }, kinds := [], alts := [], laidByText := true, laidKinds := [.data, .data, .data, .data, .data, .sentinel, .sentinel], laidTests := true, laidLooks := .later }
def HintsCrashUptoCardSaid : Prop := Claim7.holds Tryz.pinned (.plain (OpenSpec.upto hintsCrashSpec)) hintsCrashUptoCard

/-- THE SECOND FORM's CARD OF 'hoardlaw16.HintsStale'. -/
def hintsStaleUptoCard : Claim7 := { stood := { row := hintsStaleUptoRow, standIns := [], harness := (true, "6b00f1d81ed2cb10339a93c5970a9d90385e13f72e22be33afdb980ea8a5020d"), looks := true }, kinds := [], alts := [], laidByText := true, laidKinds := [.data, .data, .data, .data, .data, .sentinel, .sentinel], laidTests := true, laidLooks := .later }
def HintsStaleUptoCardSaid : Prop := Claim7.holds Tryz.pinned (.plain (OpenSpec.upto hintsStaleSpec)) hintsStaleUptoCard

/-- THE SECOND FORM's CARD OF 'hoardlaw16.HintsNames'. -/
def hintsNamesUptoCard : Claim7 := { stood := { row := hintsNamesUptoRow, standIns := [], harness := (true, "6b00f1d81ed2cb10339a93c5970a9d90385e13f72e22be33afdb980ea8a5020d"), looks := true }, kinds := [], alts := [], laidByText := true, laidKinds := [.data, .data, .data, .sentinel, .sentinel], laidTests := true, laidLooks := .later }
def HintsNamesUptoCardSaid : Prop := Claim7.holds Tryz.pinned (.plain (OpenSpec.upto hintsNamesSpec)) hintsNamesUptoCard

/-- THE SECOND FORM's CARD OF 'hoardlaw16.HintsNobody'. -/
def hintsNobodyUptoCard : Claim7 := { stood := { row := hintsNobodyUptoRow, standIns := [], harness := (true, "6b00f1d81ed2cb10339a93c5970a9d90385e13f72e22be33afdb980ea8a5020d"), looks := true }, kinds := [], alts := [], laidByText := true, laidKinds := [.data, .data, .data, .sentinel, .sentinel], laidTests := true, laidLooks := .later }
def HintsNobodyUptoCardSaid : Prop := Claim7.holds Tryz.pinned (.plain (OpenSpec.upto hintsNobodySpec)) hintsNobodyUptoCard
end Rows
end Go.Proofs.YtblgphfdicffcaaGreatDoor

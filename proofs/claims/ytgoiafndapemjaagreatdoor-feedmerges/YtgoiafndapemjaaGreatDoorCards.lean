/-
  DERIVED. GIVEN WITH THE SEED: THE CARDS: each row of YtgoiafndapemjaaGreatDoorRows.lean that lists a variable, with what it lists TIED to the program's text (the seventh form; the later family's looks); each row that meets fmt, with fmt's text TOLD by the authors' own Lean function (tested against real Go, not proved from fmt's source: count such statements apart). THE CARD IS WHAT COUNTS. Prove the row's statement (the work); the ties are given (YtgoiafndapemjaaGreatDoorTie.lean); close each card by the builder's one call (the guide's Derived/Test/ToyasCard.lean, 'card_holds'). Laid BY PROGRAM, IN A SANDBOX (cutbox-door.mjs). By AI agents, Wed Nov 11 2026. No macro, syntax, notation, axiom, sorry.
-/
import Derived.Test.YtgoiafndapemjaaGreatDoorRows
import GoSem.ClaimSeven
namespace Go.Proofs.YtgoiafndapemjaaGreatDoor
namespace Rows

/-- THE TIED CARD OF 'lanternlaw15.FeedReads'. -/
def feedReadsCard : Claim7 := { stood := { row := feedReadsRow, standIns := [], harness := (true, "c14b86aedada3975c5ae4c3937e1fa9e03a6bbe9bc5b968086483602472ab664"), looks := true }, kinds := [], alts := [], laidByText := true, laidKinds := [.data, .data, .data, .data, .data, .data, .sentinel, .sentinel, .data, .data, .pinned], laidTests := true, laidLooks := .later }
def FeedReadsCardSaid : Prop := Claim7.holds Tryz.pinned (.plain (OpenSpec.ofChange feedReadsSpec)) feedReadsCard

/-- THE TIED CARD OF 'lanternlaw15.FeedParses'. -/
def feedParsesCard : Claim7 := { stood := { row := feedParsesRow, standIns := [], harness := (true, "c14b86aedada3975c5ae4c3937e1fa9e03a6bbe9bc5b968086483602472ab664"), looks := true }, kinds := [], alts := [], laidByText := true, laidKinds := [.data, .data, .data, .data, .data, .data, .sentinel, .sentinel, .data, .data, .pinned], laidTests := true, laidLooks := .later }
def FeedParsesCardSaid : Prop := Claim7.holds Tryz.pinned (.plain (OpenSpec.ofChange feedParsesSpec)) feedParsesCard

/-- THE TIED CARD OF 'lanternlaw15.FeedShort'. -/
def feedShortCard : Claim7 := { stood := { row := feedShortRow, standIns := [], harness := (true, "c14b86aedada3975c5ae4c3937e1fa9e03a6bbe9bc5b968086483602472ab664"), looks := true }, kinds := [], alts := [], laidByText := true, laidKinds := [.data, .data, .data, .data, .data, .data, .sentinel, .sentinel, .data, .data, .pinned], laidTests := true, laidLooks := .later }
def FeedShortCardSaid : Prop := Claim7.holds Tryz.pinned (.plain (OpenSpec.ofChange feedShortSpec)) feedShortCard

/-- THE TIED CARD OF 'lanternlaw15.FeedMerges'. -/
def feedMergesCard : Claim7 := { stood := { row := feedMergesRow, standIns := [], harness := (true, "c14b86aedada3975c5ae4c3937e1fa9e03a6bbe9bc5b968086483602472ab664"), looks := true }, kinds := [], alts := [], laidByText := true, laidKinds := [.data, .data, .data, .data, .data, .data, .sentinel, .sentinel, .data, .data, .pinned], laidTests := true, laidLooks := .later }
def FeedMergesCardSaid : Prop := Claim7.holds Tryz.pinned (.plain (OpenSpec.ofChange feedMergesSpec)) feedMergesCard

/-- THE SECOND FORM's CARD OF 'lanternlaw15.FeedReads'. -/
def feedReadsUptoCard : Claim7 := { stood := { row := feedReadsUptoRow, standIns := [], harness := (true, "c14b86aedada3975c5ae4c3937e1fa9e03a6bbe9bc5b968086483602472ab664"), looks := true }, kinds := [], alts := [], laidByText := true, laidKinds := [.data, .data, .data, .data, .data, .data, .sentinel, .sentinel, .data, .data, .pinned], laidTests := true, laidLooks := .later }
def FeedReadsUptoCardSaid : Prop := Claim7.holds Tryz.pinned (.plain (OpenSpec.upto feedReadsSpec)) feedReadsUptoCard

/-- THE SECOND FORM's CARD OF 'lanternlaw15.FeedParses'. -/
def feedParsesUptoCard : Claim7 := { stood := { row := feedParsesUptoRow, standIns := [], harness := (true, "c14b86aedada3975c5ae4c3937e1fa9e03a6bbe9bc5b968086483602472ab664"), looks := true }, kinds := [], alts := [], laidByText := true, laidKinds := [.data, .data, .data, .data, .data, .data, .sentinel, .sentinel, .data, .data, .pinned], laidTests := true, laidLooks := .later }
def FeedParsesUptoCardSaid : Prop := Claim7.holds Tryz.pinned (.plain (OpenSpec.upto feedParsesSpec)) feedParsesUptoCard

/-- THE SECOND FORM's CARD OF 'lanternlaw15.FeedShort'. -/
def feedShortUptoCard : Claim7 := { stood := { row := feedShortUptoRow, standIns := [], harness := (true, "c14b86aedada3975c5ae4c3937e1fa9e03a6bbe9bc5b968086483602472ab664"), looks := true }, kinds := [], alts := [], laidByText := true, laidKinds := [.data, .data, .data, .data, .data, .data, .sentinel, .sentinel, .data, .data, .pinned], laidTests := true, laidLooks := .later }
def FeedShortUptoCardSaid : Prop := Claim7.holds Tryz.pinned (.plain (OpenSpec.upto feedShortSpec)) feedShortUptoCard

/-- THE SECOND FORM's CARD OF 'lanternlaw15.FeedMerges'. -/
def feedMergesUptoCard : Claim7 := { stood := { row := feedMergesUptoRow, standIns := [], harness := (true, "c14b86aedada3975c5ae4c3937e1fa9e03a6bbe9bc5b968086483602472ab664"), looks := true }, kinds := [], alts := [], laidByText := true, laidKinds := [.data, .data, .data, .data, .data, .data, .sentinel, .sentinel, .data, .data, .pinned], laidTests := true, laidLooks := .later }
def FeedMergesUptoCardSaid : Prop := Claim7.holds Tryz.pinned (.plain (OpenSpec.upto feedMergesSpec)) feedMergesUptoCard
end Rows
end Go.Proofs.YtgoiafndapemjaaGreatDoor

/-
  DERIVED. GIVEN WITH THE SEED: THE CARDS: each row of YtclonnpglikddaaGreatDoorRows.lean that lists a variable, with what it lists TIED to the program's text (the seventh form; the later family's looks); each row that meets fmt, with fmt's text TOLD by the authors' own Lean function (tested against real Go, not proved from fmt's source: count such statements apart). THE CARD IS WHAT COUNTS. Prove the row's statement (the work); the ties are given (YtclonnpglikddaaGreatDoorTie.lean); close each card by the builder's one call (the guide's Derived/Test/ToyasCard.lean, 'card_holds'). Laid BY PROGRAM, IN A SANDBOX (cutbox-door.mjs). By AI agents, Wed Nov 11 2026. No macro, syntax, notation, axiom, sorry.
-/
import Derived.Test.YtclonnpglikddaaGreatDoorRows
import GoSem.ClaimSeven
namespace Go.Proofs.YtclonnpglikddaaGreatDoor
namespace Rows

/-- THE TIED CARD OF 'lanternlaw11.HttpRequests'. -/
def httpRequestsCard : Claim7 := { stood := { row := httpRequestsRow, standIns := [], harness := (true, "ba84a9aaafb04e1b12f716dd70241e2c52e6476f569fbb8c2f590392dded37e8"), looks := true }, kinds := [], alts := [], laidByText := true, laidKinds := [.data, .data, .data, .data, .sentinel, .sentinel, .pinned], laidTests := true, laidLooks := .later }
def HttpRequestsCardSaid : Prop := Claim7.holds Tryz.pinned (.plain (OpenSpec.ofChange httpRequestsSpec)) httpRequestsCard

/-- THE TIED CARD OF 'lanternlaw11.HttpResponses'. -/
def httpResponsesCard : Claim7 := { stood := { row := httpResponsesRow, standIns := [], harness := (true, "ba84a9aaafb04e1b12f716dd70241e2c52e6476f569fbb8c2f590392dded37e8"), looks := true }, kinds := [], alts := [], laidByText := true, laidKinds := [.data, .data, .data, .data, .sentinel, .sentinel, .pinned], laidTests := true, laidLooks := .later }
def HttpResponsesCardSaid : Prop := Claim7.holds Tryz.pinned (.plain (OpenSpec.ofChange httpResponsesSpec)) httpResponsesCard

/-- THE TIED CARD OF 'lanternlaw11.HttpAsks'. -/
def httpAsksCard : Claim7 := { stood := { row := httpAsksRow, standIns := [], harness := (true, "ba84a9aaafb04e1b12f716dd70241e2c52e6476f569fbb8c2f590392dded37e8"), looks := true }, kinds := [], alts := [], laidByText := true, laidKinds := [.data, .data, .data, .data, .sentinel, .sentinel, .pinned], laidTests := true, laidLooks := .later }
def HttpAsksCardSaid : Prop := Claim7.holds Tryz.pinned (.plain (OpenSpec.ofChange httpAsksSpec)) httpAsksCard

/-- THE TIED CARD OF 'lanternlaw11.HttpTells'. -/
def httpTellsCard : Claim7 := { stood := { row := httpTellsRow, standIns := [], harness := (true, "ba84a9aaafb04e1b12f716dd70241e2c52e6476f569fbb8c2f590392dded37e8"), looks := true }, kinds := [], alts := [], laidByText := true, laidKinds := [.data, .data, .data, .data, .sentinel, .sentinel, .pinned], laidTests := true, laidLooks := .later }
def HttpTellsCardSaid : Prop := Claim7.holds Tryz.pinned (.plain (OpenSpec.ofChange httpTellsSpec)) httpTellsCard

/-- THE SECOND FORM's CARD OF 'lanternlaw11.HttpRequests'. -/
def httpRequestsUptoCard : Claim7 := { stood := { row := httpRequestsUptoRow, standIns := [], harness := (true, "ba84a9aaafb04e1b12f716dd70241e2c52e6476f569fbb8c2f590392dded37e8"), looks := true }, kinds := [], alts := [], laidByText := true, laidKinds := [.data, .data, .data, .data, .sentinel, .sentinel, .pinned], laidTests := true, laidLooks := .later }
def HttpRequestsUptoCardSaid : Prop := Claim7.holds Tryz.pinned (.plain (OpenSpec.upto httpRequestsSpec)) httpRequestsUptoCard

/-- THE SECOND FORM's CARD OF 'lanternlaw11.HttpResponses'. -/
def httpResponsesUptoCard : Claim7 := { stood := { row := httpResponsesUptoRow, standIns := [], harness := (true, "ba84a9aaafb04e1b12f716dd70241e2c52e6476f569fbb8c2f590392dded37e8"), looks := true }, kinds := [], alts := [], laidByText := true, laidKinds := [.data, .data, .data, .data, .sentinel, .sentinel, .pinned], laidTests := true, laidLooks := .later }
def HttpResponsesUptoCardSaid : Prop := Claim7.holds Tryz.pinned (.plain (OpenSpec.upto httpResponsesSpec)) httpResponsesUptoCard

/-- THE SECOND FORM's CARD OF 'lanternlaw11.HttpAsks'. -/
def httpAsksUptoCard : Claim7 := { stood := { row := httpAsksUptoRow, standIns := [], harness := (true, "ba84a9aaafb04e1b12f716dd70241e2c52e6476f569fbb8c2f590392dded37e8"), looks := true }, kinds := [], alts := [], laidByText := true, laidKinds := [.data, .data, .data, .data, .sentinel, .sentinel, .pinned], laidTests := true, laidLooks := .later }
def HttpAsksUptoCardSaid : Prop := Claim7.holds Tryz.pinned (.plain (OpenSpec.upto httpAsksSpec)) httpAsksUptoCard

/-- THE SECOND FORM's CARD OF 'lanternlaw11.HttpTells'. -/
def httpTellsUptoCard : Claim7 := { stood := { row := httpTellsUptoRow, standIns := [], harness := (true, "ba84a9aaafb04e1b12f716dd70241e2c52e6476f569fbb8c2f590392dded37e8"), looks := true }, kinds := [], alts := [], laidByText := true, laidKinds := [.data, .data, .data, .data, .sentinel, .sentinel, .pinned], laidTests := true, laidLooks := .later }
def HttpTellsUptoCardSaid : Prop := Claim7.holds Tryz.pinned (.plain (OpenSpec.upto httpTellsSpec)) httpTellsUptoCard
end Rows
end Go.Proofs.YtclonnpglikddaaGreatDoor

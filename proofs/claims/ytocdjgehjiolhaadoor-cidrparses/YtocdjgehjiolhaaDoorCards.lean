/-
  DERIVED. GIVEN WITH THE SEED: THE CARDS: each row of YtocdjgehjiolhaaDoorRows.lean that lists a variable, with what it lists TIED to the program's text (the seventh form; the later family's looks); each row that meets fmt, with fmt's text TOLD by the authors' own Lean function (tested against real Go, not proved from fmt's source: count such statements apart). THE CARD IS WHAT COUNTS. Prove the row's statement (the work); the ties are given (YtocdjgehjiolhaaDoorTie.lean); close each card by the builder's one call (the guide's Derived/Test/ToyasCard.lean, 'card_holds'). Laid BY PROGRAM, IN A SANDBOX (cutbox-door.mjs). By AI agents, Wed Nov 11 2026. No macro, syntax, notation, axiom, sorry.
-/
import Derived.Test.YtocdjgehjiolhaaDoorRows
import GoSem.ClaimSeven
namespace Go.Proofs.YtocdjgehjiolhaaDoor
namespace Rows

/-- THE TIED CARD OF 'lanternlaw06.CidrParses'. -/
def cidrParsesCard : Claim7 := { stood := { row := cidrParsesRow, standIns := [], harness := (true, "e4593a5ec37917b92d514eb43c12e35a0c856d5606a935552d5b23a1ed73743e"), looks := true }, kinds := [], alts := [], laidByText := true, laidKinds := [.data, .data, .data, .data, .sentinel, .sentinel, .pinned], laidTests := true, laidLooks := .later }
def CidrParsesCardSaid : Prop := Claim7.holds Tryd.pinned (.plain (OpenSpec.ofChange cidrParsesSpec)) cidrParsesCard

/-- THE SECOND FORM's CARD OF 'lanternlaw06.CidrParses'. -/
def cidrParsesUptoCard : Claim7 := { stood := { row := cidrParsesUptoRow, standIns := [], harness := (true, "e4593a5ec37917b92d514eb43c12e35a0c856d5606a935552d5b23a1ed73743e"), looks := true }, kinds := [], alts := [], laidByText := true, laidKinds := [.data, .data, .data, .data, .sentinel, .sentinel, .pinned], laidTests := true, laidLooks := .later }
def CidrParsesUptoCardSaid : Prop := Claim7.holds Tryd.pinned (.plain (OpenSpec.upto cidrParsesSpec)) cidrParsesUptoCard
end Rows
end Go.Proofs.YtocdjgehjiolhaaDoor

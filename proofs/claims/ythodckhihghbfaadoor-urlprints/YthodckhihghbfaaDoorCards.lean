/-
  DERIVED. GIVEN WITH THE SEED: THE CARDS: each row of YthodckhihghbfaaDoorRows.lean that lists a variable, with what it lists TIED to the program's text (the seventh form; the later family's looks); each row that meets fmt, with fmt's text TOLD by the authors' own Lean function (tested against real Go, not proved from fmt's source: count such statements apart). THE CARD IS WHAT COUNTS. Prove the row's statement (the work); the ties are given (YthodckhihghbfaaDoorTie.lean); close each card by the builder's one call (the guide's Derived/Test/ToyasCard.lean, 'card_holds'). Laid BY PROGRAM, IN A SANDBOX (cutbox-door.mjs). By AI agents, Wed Nov 11 2026. No macro, syntax, notation, axiom, sorry.
-/
import Derived.Test.YthodckhihghbfaaDoorRows
import GoSem.ClaimSeven
namespace Go.Proofs.YthodckhihghbfaaDoor
namespace Rows

/-- THE TIED CARD OF 'lanternlaw07.UrlParses'. -/
def urlParsesCard : Claim7 := { stood := { row := urlParsesRow, standIns := [], harness := (true, "e2fc583a85e5917525f6b7cb61a10bcbc8197f3c839214b45195c9ecfca8a704"), looks := false }, kinds := [], alts := [], laidByText := true, laidKinds := [.data, .pinned], laidTests := true, laidLooks := .later }
def UrlParsesCardSaid : Prop := Claim7.holds Tryd.pinned (.plain (OpenSpec.ofChange urlParsesSpec)) urlParsesCard

/-- THE TIED CARD OF 'lanternlaw07.UrlPrints'. -/
def urlPrintsCard : Claim7 := { stood := { row := urlPrintsRow, standIns := [], harness := (true, "e2fc583a85e5917525f6b7cb61a10bcbc8197f3c839214b45195c9ecfca8a704"), looks := false }, kinds := [], alts := [], laidByText := true, laidKinds := [.data, .pinned], laidTests := true, laidLooks := .later }
def UrlPrintsCardSaid : Prop := Claim7.holds Tryd.pinned (.plain (OpenSpec.ofChange urlPrintsSpec)) urlPrintsCard

/-- THE TIED CARD OF 'lanternlaw07.UrlEscapes'. -/
def urlEscapesCard : Claim7 := { stood := { row := urlEscapesRow, standIns := [], harness := (true, "e2fc583a85e5917525f6b7cb61a10bcbc8197f3c839214b45195c9ecfca8a704"), looks := false }, kinds := [], alts := [], laidByText := true, laidKinds := [.data, .pinned, .pinned], laidTests := true, laidLooks := .later }
def UrlEscapesCardSaid : Prop := Claim7.holds Tryd.pinned (.plain (OpenSpec.ofChange urlEscapesSpec)) urlEscapesCard

/-- THE TIED CARD OF 'lanternlaw07.UrlUnescapes'. -/
def urlUnescapesCard : Claim7 := { stood := { row := urlUnescapesRow, standIns := [], harness := (true, "e2fc583a85e5917525f6b7cb61a10bcbc8197f3c839214b45195c9ecfca8a704"), looks := false }, kinds := [], alts := [], laidByText := true, laidKinds := [.data, .pinned], laidTests := true, laidLooks := .later }
def UrlUnescapesCardSaid : Prop := Claim7.holds Tryd.pinned (.plain (OpenSpec.ofChange urlUnescapesSpec)) urlUnescapesCard

/-- THE SECOND FORM's CARD OF 'lanternlaw07.UrlParses'. -/
def urlParsesUptoCard : Claim7 := { stood := { row := urlParsesUptoRow, standIns := [], harness := (true, "e2fc583a85e5917525f6b7cb61a10bcbc8197f3c839214b45195c9ecfca8a704"), looks := false }, kinds := [], alts := [], laidByText := true, laidKinds := [.data, .pinned], laidTests := true, laidLooks := .later }
def UrlParsesUptoCardSaid : Prop := Claim7.holds Tryd.pinned (.plain (OpenSpec.upto urlParsesSpec)) urlParsesUptoCard

/-- THE SECOND FORM's CARD OF 'lanternlaw07.UrlPrints'. -/
def urlPrintsUptoCard : Claim7 := { stood := { row := urlPrintsUptoRow, standIns := [], harness := (true, "e2fc583a85e5917525f6b7cb61a10bcbc8197f3c839214b45195c9ecfca8a704"), looks := false }, kinds := [], alts := [], laidByText := true, laidKinds := [.data, .pinned], laidTests := true, laidLooks := .later }
def UrlPrintsUptoCardSaid : Prop := Claim7.holds Tryd.pinned (.plain (OpenSpec.upto urlPrintsSpec)) urlPrintsUptoCard

/-- THE SECOND FORM's CARD OF 'lanternlaw07.UrlEscapes'. -/
def urlEscapesUptoCard : Claim7 := { stood := { row := urlEscapesUptoRow, standIns := [], harness := (true, "e2fc583a85e5917525f6b7cb61a10bcbc8197f3c839214b45195c9ecfca8a704"), looks := false }, kinds := [], alts := [], laidByText := true, laidKinds := [.data, .pinned, .pinned], laidTests := true, laidLooks := .later }
def UrlEscapesUptoCardSaid : Prop := Claim7.holds Tryd.pinned (.plain (OpenSpec.upto urlEscapesSpec)) urlEscapesUptoCard

/-- THE SECOND FORM's CARD OF 'lanternlaw07.UrlUnescapes'. -/
def urlUnescapesUptoCard : Claim7 := { stood := { row := urlUnescapesUptoRow, standIns := [], harness := (true, "e2fc583a85e5917525f6b7cb61a10bcbc8197f3c839214b45195c9ecfca8a704"), looks := false }, kinds := [], alts := [], laidByText := true, laidKinds := [.data, .pinned], laidTests := true, laidLooks := .later }
def UrlUnescapesUptoCardSaid : Prop := Claim7.holds Tryd.pinned (.plain (OpenSpec.upto urlUnescapesSpec)) urlUnescapesUptoCard
end Rows
end Go.Proofs.YthodckhihghbfaaDoor

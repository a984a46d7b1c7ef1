/-
  DERIVED. GIVEN WITH THE SEED: THE CARDS: each row of YtaieeclobokflaaDoorRows.lean that lists a variable, with what it lists TIED to the program's text (the seventh form; the later family's looks); each row that meets fmt, with fmt's text TOLD by the authors' own Lean function (tested against real Go, not proved from fmt's source: count such statements apart). THE CARD IS WHAT COUNTS. Prove the row's statement (the work); the ties are given (YtaieeclobokflaaDoorTie.lean); close each card by the builder's one call (the guide's Derived/Test/ToyasCard.lean, 'card_holds'). Laid BY PROGRAM, IN A SANDBOX (cutbox-door.mjs). By AI agents, Wed Nov 11 2026. No macro, syntax, notation, axiom, sorry.
-/
import Derived.Test.YtaieeclobokflaaDoorRows
import GoSem.ClaimSeven
namespace Go.Proofs.YtaieeclobokflaaDoor
namespace Rows

/-- THE TIED CARD OF 'dovetaillaw04.SpecPlaces'. -/
def specPlacesCard : Claim7 := { stood := { row := specPlacesRow, standIns := [], harness := (true, "737ac0f15c0799be01d4dcd3fdce360e1245f962e4aefad41a5366b91aa21f57"), looks := true }, kinds := [], alts := [], laidByText := true, laidKinds := [.data, .handle, .sentinel, .sentinel, .sentinel, .sentinel, .sentinel, .sentinel, .sentinel, .sentinel, .sentinel, .sentinel, .sentinel, .sentinel, .sentinel, .sentinel, .sentinel, .pinned], laidTests := true, laidLooks := .later }
def SpecPlacesCardSaid : Prop := Claim7.holds Tryd.pinned (.plain (OpenSpec.ofChange specPlacesSpec)) specPlacesCard

/-- THE SECOND FORM's CARD OF 'dovetaillaw04.SpecPlaces'. -/
def specPlacesUptoCard : Claim7 := { stood := { row := specPlacesUptoRow, standIns := [], harness := (true, "737ac0f15c0799be01d4dcd3fdce360e1245f962e4aefad41a5366b91aa21f57"), looks := true }, kinds := [], alts := [], laidByText := true, laidKinds := [.data, .handle, .sentinel, .sentinel, .sentinel, .sentinel, .sentinel, .sentinel, .sentinel, .sentinel, .sentinel, .sentinel, .sentinel, .sentinel, .sentinel, .sentinel, .sentinel, .pinned], laidTests := true, laidLooks := .later }
def SpecPlacesUptoCardSaid : Prop := Claim7.holds Tryd.pinned (.plain (OpenSpec.upto specPlacesSpec)) specPlacesUptoCard
end Rows
end Go.Proofs.YtaieeclobokflaaDoor

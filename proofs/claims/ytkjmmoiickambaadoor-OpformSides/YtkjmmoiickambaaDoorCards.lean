/-
  DERIVED. GIVEN WITH THE SEED: THE CARDS: each row of YtkjmmoiickambaaDoorRows.lean that lists a variable, with what it lists TIED to the program's text (the seventh form; the later family's looks); each row that meets fmt, with fmt's text TOLD by the authors' own Lean function (tested against real Go, not proved from fmt's source: count such statements apart). THE CARD IS WHAT COUNTS. Prove the row's statement (the work); the ties are given (YtkjmmoiickambaaDoorTie.lean); close each card by the builder's one call (the guide's Derived/Test/ToyasCard.lean, 'card_holds'). Laid BY PROGRAM, IN A SANDBOX (cutbox-door.mjs). By AI agents, Wed Nov 11 2026. No macro, syntax, notation, axiom, sorry.
-/
import Derived.Test.YtkjmmoiickambaaDoorRows
import GoSem.ClaimSeven
namespace Go.Proofs.YtkjmmoiickambaaDoor
namespace Rows

/-- THE TIED CARD OF 'dovetaillaw06.OpformChecks'. -/
def opformChecksCard : Claim7 := { stood := { row := opformChecksRow, standIns := [], harness := (true, "b9ea5174895dc685e487fe470cdd2410e8fb0e0a89ae56fe326c75bdf404f4b2"), looks := true }, kinds := [], alts := [], laidByText := true, laidKinds := [.handle, .sentinel, .sentinel, .sentinel, .sentinel, .sentinel, .sentinel, .sentinel, .sentinel, .sentinel, .sentinel, .sentinel, .sentinel, .sentinel, .sentinel, .sentinel], laidTests := true, laidLooks := .later }
def OpformChecksCardSaid : Prop := Claim7.holds Tryd.pinned (.plain (OpenSpec.ofChange opformChecksSpec)) opformChecksCard

/-- THE TIED CARD OF 'dovetaillaw06.OpformSides'. -/
def opformSidesCard : Claim7 := { stood := { row := opformSidesRow, standIns := [], harness := (true, "b9ea5174895dc685e487fe470cdd2410e8fb0e0a89ae56fe326c75bdf404f4b2"), looks := true }, kinds := [], alts := [], laidByText := true, laidKinds := [.handle, .sentinel, .sentinel, .sentinel, .sentinel, .sentinel, .sentinel, .sentinel, .sentinel, .sentinel, .sentinel, .sentinel, .sentinel, .sentinel, .sentinel, .sentinel], laidTests := true, laidLooks := .later }
def OpformSidesCardSaid : Prop := Claim7.holds Tryd.pinned (.plain (OpenSpec.ofChange opformSidesSpec)) opformSidesCard

/-- THE TIED CARD OF 'dovetaillaw06.OpformKnown'. -/
def opformKnownCard : Claim7 := { stood := { row := opformKnownRow, standIns := [], harness := (true, "b9ea5174895dc685e487fe470cdd2410e8fb0e0a89ae56fe326c75bdf404f4b2"), looks := true }, kinds := [], alts := [], laidByText := true, laidKinds := [.handle, .sentinel, .sentinel, .sentinel, .sentinel, .sentinel, .sentinel, .sentinel, .sentinel, .sentinel, .sentinel, .sentinel, .sentinel, .sentinel, .sentinel, .sentinel], laidTests := true, laidLooks := .later }
def OpformKnownCardSaid : Prop := Claim7.holds Tryd.pinned (.plain (OpenSpec.ofChange opformKnownSpec)) opformKnownCard

/-- THE TIED CARD OF 'dovetaillaw06.OpformForm'. -/
def opformFormCard : Claim7 := { stood := { row := opformFormRow, standIns := [], harness := (true, "b9ea5174895dc685e487fe470cdd2410e8fb0e0a89ae56fe326c75bdf404f4b2"), looks := true }, kinds := [], alts := [], laidByText := true, laidKinds := [.handle, .sentinel, .sentinel, .sentinel, .sentinel, .sentinel, .sentinel, .sentinel, .sentinel, .sentinel, .sentinel, .sentinel, .sentinel, .sentinel, .sentinel, .sentinel], laidTests := true, laidLooks := .later }
def OpformFormCardSaid : Prop := Claim7.holds Tryd.pinned (.plain (OpenSpec.ofChange opformFormSpec)) opformFormCard

/-- THE TIED CARD OF 'dovetaillaw06.OpformSkeletons'. -/
def opformSkeletonsCard : Claim7 := { stood := { row := opformSkeletonsRow, standIns := [], harness := (true, "b9ea5174895dc685e487fe470cdd2410e8fb0e0a89ae56fe326c75bdf404f4b2"), looks := true }, kinds := [], alts := [], laidByText := true, laidKinds := [.handle, .sentinel, .sentinel, .sentinel, .sentinel, .sentinel, .sentinel, .sentinel, .sentinel, .sentinel, .sentinel, .sentinel, .sentinel, .sentinel, .sentinel, .sentinel], laidTests := true, laidLooks := .later }
def OpformSkeletonsCardSaid : Prop := Claim7.holds Tryd.pinned (.plain (OpenSpec.ofChange opformSkeletonsSpec)) opformSkeletonsCard

/-- THE SECOND FORM's CARD OF 'dovetaillaw06.OpformChecks'. -/
def opformChecksUptoCard : Claim7 := { stood := { row := opformChecksUptoRow, standIns := [], harness := (true, "b9ea5174895dc685e487fe470cdd2410e8fb0e0a89ae56fe326c75bdf404f4b2"), looks := true }, kinds := [], alts := [], laidByText := true, laidKinds := [.handle, .sentinel, .sentinel, .sentinel, .sentinel, .sentinel, .sentinel, .sentinel, .sentinel, .sentinel, .sentinel, .sentinel, .sentinel, .sentinel, .sentinel, .sentinel], laidTests := true, laidLooks := .later }
def OpformChecksUptoCardSaid : Prop := Claim7.holds Tryd.pinned (.plain (OpenSpec.upto opformChecksSpec)) opformChecksUptoCard

/-- THE SECOND FORM's CARD OF 'dovetaillaw06.OpformSides'. -/
def opformSidesUptoCard : Claim7 := { stood := { row := opformSidesUptoRow, standIns := [], harness := (true, "b9ea5174895dc685e487fe470cdd2410e8fb0e0a89ae56fe326c75bdf404f4b2"), looks := true }, kinds := [], alts := [], laidByText := true, laidKinds := [.handle, .sentinel, .sentinel, .sentinel, .sentinel, .sentinel, .sentinel, .sentinel, .sentinel, .sentinel, .sentinel, .sentinel, .sentinel, .sentinel, .sentinel, .sentinel], laidTests := true, laidLooks := .later }
def OpformSidesUptoCardSaid : Prop := Claim7.holds Tryd.pinned (.plain (OpenSpec.upto opformSidesSpec)) opformSidesUptoCard

/-- THE SECOND FORM's CARD OF 'dovetaillaw06.OpformKnown'. -/
def opformKnownUptoCard : Claim7 := { stood := { row := opformKnownUptoRow, standIns := [], harness := (true, "b9ea5174895dc685e487fe470cdd2410e8fb0e0a89ae56fe326c75bdf404f4b2"), looks := true }, kinds := [], alts := [], laidByText := true, laidKinds := [.handle, .sentinel, .sentinel, .sentinel, .sentinel, .sentinel, .sentinel, .sentinel, .sentinel, .sentinel, .sentinel, .sentinel, .sentinel, .sentinel, .sentinel, .sentinel], laidTests := true, laidLooks := .later }
def OpformKnownUptoCardSaid : Prop := Claim7.holds Tryd.pinned (.plain (OpenSpec.upto opformKnownSpec)) opformKnownUptoCard

/-- THE SECOND FORM's CARD OF 'dovetaillaw06.OpformForm'. -/
def opformFormUptoCard : Claim7 := { stood := { row := opformFormUptoRow, standIns := [], harness := (true, "b9ea5174895dc685e487fe470cdd2410e8fb0e0a89ae56fe326c75bdf404f4b2"), looks := true }, kinds := [], alts := [], laidByText := true, laidKinds := [.handle, .sentinel, .sentinel, .sentinel, .sentinel, .sentinel, .sentinel, .sentinel, .sentinel, .sentinel, .sentinel, .sentinel, .sentinel, .sentinel, .sentinel, .sentinel], laidTests := true, laidLooks := .later }
def OpformFormUptoCardSaid : Prop := Claim7.holds Tryd.pinned (.plain (OpenSpec.upto opformFormSpec)) opformFormUptoCard

/-- THE SECOND FORM's CARD OF 'dovetaillaw06.OpformSkeletons'. -/
def opformSkeletonsUptoCard : Claim7 := { stood := { row := opformSkeletonsUptoRow, standIns := [], harness := (true, "b9ea5174895dc685e487fe470cdd2410e8fb0e0a89ae56fe326c75bdf404f4b2"), looks := true }, kinds := [], alts := [], laidByText := true, laidKinds := [.handle, .sentinel, .sentinel, .sentinel, .sentinel, .sentinel, .sentinel, .sentinel, .sentinel, .sentinel, .sentinel, .sentinel, .sentinel, .sentinel, .sentinel, .sentinel], laidTests := true, laidLooks := .later }
def OpformSkeletonsUptoCardSaid : Prop := Claim7.holds Tryd.pinned (.plain (OpenSpec.upto opformSkeletonsSpec)) opformSkeletonsUptoCard
end Rows
end Go.Proofs.YtkjmmoiickambaaDoor

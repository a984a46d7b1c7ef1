/-
  DERIVED. GIVEN WITH THE SEED: THE CARDS: each row of YtpdkjblmpgmcjaaDoorRows.lean that lists a variable, with what it lists TIED to the program's text (the seventh form; the later family's looks); each row that meets fmt, with fmt's text TOLD by the authors' own Lean function (tested against real Go, not proved from fmt's source: count such statements apart). THE CARD IS WHAT COUNTS. Prove the row's statement (the work); the ties are given (YtpdkjblmpgmcjaaDoorTie.lean); close each card by the builder's one call (the guide's Derived/Test/ToyasCard.lean, 'card_holds'). Laid BY PROGRAM, IN A SANDBOX (cutbox-door.mjs). By AI agents, Wed Nov 11 2026. No macro, syntax, notation, axiom, sorry.
-/
import Derived.Test.YtpdkjblmpgmcjaaDoorRows
import GoSem.ClaimSeven
namespace Go.Proofs.YtpdkjblmpgmcjaaDoor
namespace Rows

/-- THE TIED CARD OF 'dovetaillaw09.MatrixWhy'. -/
def matrixWhyCard : Claim7 := { stood := { row := matrixWhyRow, standIns := [], harness := (true, "9cc32b934a59faeff96df39eea84aca42eab4a616eb6fcb0f0d010b8ee76f299"), looks := true }, kinds := [], alts := [], laidByText := true, laidKinds := [.data, .handle, .sentinel, .sentinel, .sentinel, .sentinel, .sentinel, .sentinel, .sentinel, .sentinel, .sentinel, .sentinel, .sentinel, .sentinel, .sentinel, .sentinel, .sentinel], laidTests := true, laidLooks := .later }
def MatrixWhyCardSaid : Prop := Claim7.holds Tryd.pinned (.plain (OpenSpec.ofChange matrixWhySpec)) matrixWhyCard

/-- THE TIED CARD OF 'dovetaillaw09.MatrixKnown'. -/
def matrixKnownCard : Claim7 := { stood := { row := matrixKnownRow, standIns := [], harness := (true, "9cc32b934a59faeff96df39eea84aca42eab4a616eb6fcb0f0d010b8ee76f299"), looks := true }, kinds := [], alts := [], laidByText := true, laidKinds := [.data, .sentinel, .sentinel, .sentinel, .sentinel, .sentinel, .sentinel, .sentinel, .sentinel, .sentinel, .sentinel, .sentinel, .sentinel, .sentinel, .sentinel, .sentinel], laidTests := true, laidLooks := .later }
def MatrixKnownCardSaid : Prop := Claim7.holds Tryd.pinned (.plain (OpenSpec.ofChange matrixKnownSpec)) matrixKnownCard

/-- THE TIED CARD OF 'dovetaillaw09.MatrixTurned'. -/
def matrixTurnedCard : Claim7 := { stood := { row := matrixTurnedRow, standIns := [], harness := (true, "9cc32b934a59faeff96df39eea84aca42eab4a616eb6fcb0f0d010b8ee76f299"), looks := true }, kinds := [], alts := [], laidByText := true, laidKinds := [.data, .sentinel, .sentinel, .sentinel], laidTests := true, laidLooks := .later }
def MatrixTurnedCardSaid : Prop := Claim7.holds Tryd.pinned (.plain (OpenSpec.ofChange matrixTurnedSpec)) matrixTurnedCard

/-- THE TIED CARD OF 'dovetaillaw09.MatrixReasons'. -/
def matrixReasonsCard : Claim7 := { stood := { row := matrixReasonsRow, standIns := [], harness := (true, "9cc32b934a59faeff96df39eea84aca42eab4a616eb6fcb0f0d010b8ee76f299"), looks := true }, kinds := [], alts := [], laidByText := true, laidKinds := [.data, .sentinel, .sentinel, .sentinel, .sentinel, .sentinel, .sentinel, .sentinel, .sentinel, .sentinel, .sentinel, .sentinel, .sentinel, .sentinel, .sentinel, .sentinel], laidTests := true, laidLooks := .later }
def MatrixReasonsCardSaid : Prop := Claim7.holds Tryd.pinned (.plain (OpenSpec.ofChange matrixReasonsSpec)) matrixReasonsCard

/-- THE SECOND FORM's CARD OF 'dovetaillaw09.MatrixWhy'. -/
def matrixWhyUptoCard : Claim7 := { stood := { row := matrixWhyUptoRow, standIns := [], harness := (true, "9cc32b934a59faeff96df39eea84aca42eab4a616eb6fcb0f0d010b8ee76f299"), looks := true }, kinds := [], alts := [], laidByText := true, laidKinds := [.data, .handle, .sentinel, .sentinel, .sentinel, .sentinel, .sentinel, .sentinel, .sentinel, .sentinel, .sentinel, .sentinel, .sentinel, .sentinel, .sentinel, .sentinel, .sentinel], laidTests := true, laidLooks := .later }
def MatrixWhyUptoCardSaid : Prop := Claim7.holds Tryd.pinned (.plain (OpenSpec.upto matrixWhySpec)) matrixWhyUptoCard

/-- THE SECOND FORM's CARD OF 'dovetaillaw09.MatrixKnown'. -/
def matrixKnownUptoCard : Claim7 := { stood := { row := matrixKnownUptoRow, standIns := [], harness := (true, "9cc32b934a59faeff96df39eea84aca42eab4a616eb6fcb0f0d010b8ee76f299"), looks := true }, kinds := [], alts := [], laidByText := true, laidKinds := [.data, .sentinel, .sentinel, .sentinel, .sentinel, .sentinel, .sentinel, .sentinel, .sentinel, .sentinel, .sentinel, .sentinel, .sentinel, .sentinel, .sentinel, .sentinel], laidTests := true, laidLooks := .later }
def MatrixKnownUptoCardSaid : Prop := Claim7.holds Tryd.pinned (.plain (OpenSpec.upto matrixKnownSpec)) matrixKnownUptoCard

/-- THE SECOND FORM's CARD OF 'dovetaillaw09.MatrixTurned'. -/
def matrixTurnedUptoCard : Claim7 := { stood := { row := matrixTurnedUptoRow, standIns := [], harness := (true, "9cc32b934a59faeff96df39eea84aca42eab4a616eb6fcb0f0d010b8ee76f299"), looks := true }, kinds := [], alts := [], laidByText := true, laidKinds := [.data, .sentinel, .sentinel, .sentinel], laidTests := true, laidLooks := .later }
def MatrixTurnedUptoCardSaid : Prop := Claim7.holds Tryd.pinned (.plain (OpenSpec.upto matrixTurnedSpec)) matrixTurnedUptoCard

/-- THE SECOND FORM's CARD OF 'dovetaillaw09.MatrixReasons'. -/
def matrixReasonsUptoCard : Claim7 := { stood := { row := matrixReasonsUptoRow, standIns := [], harness := (true, "9cc32b934a59faeff96df39eea84aca42eab4a616eb6fcb0f0d010b8ee76f299"), looks := true }, kinds := [], alts := [], laidByText := true, laidKinds := [.data, .sentinel, .sentinel, .sentinel, .sentinel, .sentinel, .sentinel, .sentinel, .sentinel, .sentinel, .sentinel, .sentinel, .sentinel, .sentinel, .sentinel, .sentinel], laidTests := true, laidLooks := .later }
def MatrixReasonsUptoCardSaid : Prop := Claim7.holds Tryd.pinned (.plain (OpenSpec.upto matrixReasonsSpec)) matrixReasonsUptoCard
end Rows
end Go.Proofs.YtpdkjblmpgmcjaaDoor

/-
  DERIVED. GIVEN WITH THE SEED: THE CARDS: each row of YtjcagdbepcjbiabDoorRows.lean that lists a variable, with what it lists TIED to the program's text (the seventh form; the later family's looks); each row that meets fmt, with fmt's text TOLD by the authors' own Lean function (tested against real Go, not proved from fmt's source: count such statements apart). THE CARD IS WHAT COUNTS. Prove the row's statement (the work); the ties are given (YtjcagdbepcjbiabDoorTie.lean); close each card by the builder's one call (the guide's Derived/Test/ToyasCard.lean, 'card_holds'). Laid BY PROGRAM, IN A SANDBOX (cutbox-door.mjs). By AI agents, Wed Nov 11 2026. No macro, syntax, notation, axiom, sorry.
-/
import Derived.Test.YtjcagdbepcjbiabDoorRows
import GoSem.ClaimSeven
namespace Go.Proofs.YtjcagdbepcjbiabDoor
namespace Rows

/-- THE TIED CARD OF 'dovetaillaw03.GramLess'. -/
def gramLessCard : Claim7 := { stood := { row := gramLessRow, standIns := [], harness := (true, "c87fdbe820a5376f3ea5886d20058216dd0c18f8660c23130581f0f1147b62a7"), looks := true }, kinds := [], alts := [], laidByText := true, laidKinds := [.handle, .sentinel, .sentinel, .sentinel, .sentinel, .sentinel, .sentinel, .sentinel, .sentinel, .sentinel, .sentinel, .sentinel, .sentinel, .sentinel, .sentinel, .sentinel], laidTests := true, laidLooks := .later }
def GramLessCardSaid : Prop := Claim7.holds Tryd.pinned (.plain (OpenSpec.ofChange gramLessSpec)) gramLessCard

/-- THE SECOND FORM's CARD OF 'dovetaillaw03.GramLess'. -/
def gramLessUptoCard : Claim7 := { stood := { row := gramLessUptoRow, standIns := [], harness := (true, "c87fdbe820a5376f3ea5886d20058216dd0c18f8660c23130581f0f1147b62a7"), looks := true }, kinds := [], alts := [], laidByText := true, laidKinds := [.handle, .sentinel, .sentinel, .sentinel, .sentinel, .sentinel, .sentinel, .sentinel, .sentinel, .sentinel, .sentinel, .sentinel, .sentinel, .sentinel, .sentinel, .sentinel], laidTests := true, laidLooks := .later }
def GramLessUptoCardSaid : Prop := Claim7.holds Tryd.pinned (.plain (OpenSpec.upto gramLessSpec)) gramLessUptoCard
end Rows
end Go.Proofs.YtjcagdbepcjbiabDoor

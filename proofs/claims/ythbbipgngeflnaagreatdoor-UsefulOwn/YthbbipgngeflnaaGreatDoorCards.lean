/-
  DERIVED. GIVEN WITH THE SEED: THE CARDS: each row of YthbbipgngeflnaaGreatDoorRows.lean that lists a variable, with what it lists TIED to the program's text (the seventh form; the later family's looks); each row that meets fmt, with fmt's text TOLD by the authors' own Lean function (tested against real Go, not proved from fmt's source: count such statements apart). THE CARD IS WHAT COUNTS. Prove the row's statement (the work); the ties are given (YthbbipgngeflnaaGreatDoorTie.lean); close each card by the builder's one call (the guide's Derived/Test/ToyasCard.lean, 'card_holds'). Laid BY PROGRAM, IN A SANDBOX (cutbox-door.mjs). By AI agents, Wed Nov 11 2026. No macro, syntax, notation, axiom, sorry.
-/
import Derived.Test.YthbbipgngeflnaaGreatDoorRows
import GoSem.ClaimSeven
namespace Go.Proofs.YthbbipgngeflnaaGreatDoor
namespace Rows

/-- THE TIED CARD OF 'dovetaillaw07.UsefulOwn'. -/
def usefulOwnCard : Claim7 := { stood := { row := usefulOwnRow, standIns := [], harness := (true, "a98d55fcdc8201adf8b285d7e263fcdec727dac54841db724fa03ea10727cfc2"), looks := true }, kinds := [], alts := [], laidByText := true, laidKinds := [.data, .sentinel, .sentinel, .sentinel, .sentinel, .sentinel, .sentinel, .sentinel, .sentinel, .sentinel, .sentinel, .sentinel, .sentinel, .sentinel, .sentinel, .sentinel], laidTests := true, laidLooks := .later }
def UsefulOwnCardSaid : Prop := Claim7.holds Tryz.pinned (.plain (OpenSpec.ofChange usefulOwnSpec)) usefulOwnCard

/-- THE SECOND FORM's CARD OF 'dovetaillaw07.UsefulOwn'. -/
def usefulOwnUptoCard : Claim7 := { stood := { row := usefulOwnUptoRow, standIns := [], harness := (true, "a98d55fcdc8201adf8b285d7e263fcdec727dac54841db724fa03ea10727cfc2"), looks := true }, kinds := [], alts := [], laidByText := true, laidKinds := [.data, .sentinel, .sentinel, .sentinel, .sentinel, .sentinel, .sentinel, .sentinel, .sentinel, .sentinel, .sentinel, .sentinel, .sentinel, .sentinel, .sentinel, .sentinel], laidTests := true, laidLooks := .later }
def UsefulOwnUptoCardSaid : Prop := Claim7.holds Tryz.pinned (.plain (OpenSpec.upto usefulOwnSpec)) usefulOwnUptoCard
end Rows
end Go.Proofs.YthbbipgngeflnaaGreatDoor

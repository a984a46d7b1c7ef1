/-
  DERIVED. GIVEN WITH THE SEED: THE CARDS: each row of YtigepihinflkdaaGreatDoorRows.lean that lists a variable, with what it lists TIED to the program's text (the seventh form; the later family's looks); each row that meets fmt, with fmt's text TOLD by the authors' own Lean function (tested against real Go, not proved from fmt's source: count such statements apart). THE CARD IS WHAT COUNTS. Prove the row's statement (the work); the ties are given (YtigepihinflkdaaGreatDoorTie.lean); close each card by the builder's one call (the guide's Derived/Test/ToyasCard.lean, 'card_holds'). Laid BY PROGRAM, IN A SANDBOX (cutbox-door.mjs). By AI agents, Wed Nov 11 2026. No macro, syntax, notation, axiom, sorry.
-/
import Derived.Test.YtigepihinflkdaaGreatDoorRows
import GoSem.ClaimSeven
namespace Go.Proofs.YtigepihinflkdaaGreatDoor
namespace Rows

/-- THE TIED CARD OF 'dovetaillaw13.PrecfunTells'. -/
def precfunTellsCard : Claim7 := { stood := { row := precfunTellsRow, standIns := [], harness := (true, "db7bdb0548d0c54a0b090934271d67a0788e74c2344f001ffd91ca6a4bb23e78"), looks := true }, kinds := [], alts := [], laidByText := true, laidKinds := [.data, .handle, .sentinel, .sentinel, .sentinel, .sentinel, .sentinel, .sentinel, .sentinel, .sentinel, .sentinel, .sentinel, .sentinel, .sentinel, .sentinel, .sentinel, .sentinel], laidTests := true, laidLooks := .later }
def PrecfunTellsCardSaid : Prop := Claim7.holds Tryz.pinned (.plain (OpenSpec.ofChange precfunTellsSpec)) precfunTellsCard

/-- THE TIED CARD OF 'dovetaillaw13.PrecfunFits'. -/
def precfunFitsCard : Claim7 := { stood := { row := precfunFitsRow, standIns := [], harness := (true, "db7bdb0548d0c54a0b090934271d67a0788e74c2344f001ffd91ca6a4bb23e78"), looks := true }, kinds := [], alts := [], laidByText := true, laidKinds := [.data, .sentinel, .sentinel, .sentinel, .sentinel, .sentinel, .sentinel, .sentinel, .sentinel, .sentinel, .sentinel, .sentinel, .sentinel, .sentinel, .sentinel, .sentinel], laidTests := true, laidLooks := .later }
def PrecfunFitsCardSaid : Prop := Claim7.holds Tryz.pinned (.plain (OpenSpec.ofChange precfunFitsSpec)) precfunFitsCard

/-- THE TIED CARD OF 'dovetaillaw13.PrecfunKnown'. -/
def precfunKnownCard : Claim7 := { stood := { row := precfunKnownRow, standIns := [], harness := (true, "db7bdb0548d0c54a0b090934271d67a0788e74c2344f001ffd91ca6a4bb23e78"), looks := true }, kinds := [], alts := [], laidByText := true, laidKinds := [.data, .handle, .sentinel, .sentinel, .sentinel, .sentinel, .sentinel, .sentinel, .sentinel, .sentinel, .sentinel, .sentinel, .sentinel, .sentinel, .sentinel, .sentinel, .sentinel], laidTests := true, laidLooks := .later }
def PrecfunKnownCardSaid : Prop := Claim7.holds Tryz.pinned (.plain (OpenSpec.ofChange precfunKnownSpec)) precfunKnownCard

/-- THE TIED CARD OF 'dovetaillaw13.PrecfunRight'. -/
def precfunRightCard : Claim7 := { stood := { row := precfunRightRow, standIns := [], harness := (true, "db7bdb0548d0c54a0b090934271d67a0788e74c2344f001ffd91ca6a4bb23e78"), looks := true }, kinds := [], alts := [], laidByText := true, laidKinds := [.data, .sentinel, .sentinel, .sentinel, .sentinel, .sentinel, .sentinel, .sentinel, .sentinel, .sentinel, .sentinel, .sentinel, .sentinel, .sentinel, .sentinel, .sentinel], laidTests := true, laidLooks := .later }
def PrecfunRightCardSaid : Prop := Claim7.holds Tryz.pinned (.plain (OpenSpec.ofChange precfunRightSpec)) precfunRightCard

/-- THE TIED CARD OF 'dovetaillaw13.PrecfunLeast'. -/
def precfunLeastCard : Claim7 := { stood := { row := precfunLeastRow, standIns := [], harness := (true, "db7bdb0548d0c54a0b090934271d67a0788e74c2344f001ffd91ca6a4bb23e78"), looks := true }, kinds := [], alts := [], laidByText := true, laidKinds := [.data, .sentinel, .sentinel, .sentinel, .sentinel, .sentinel, .sentinel, .sentinel, .sentinel, .sentinel, .sentinel, .sentinel, .sentinel, .sentinel, .sentinel, .sentinel], laidTests := true, laidLooks := .later }
def PrecfunLeastCardSaid : Prop := Claim7.holds Tryz.pinned (.plain (OpenSpec.ofChange precfunLeastSpec)) precfunLeastCard

/-- THE SECOND FORM's CARD OF 'dovetaillaw13.PrecfunTells'. -/
def precfunTellsUptoCard : Claim7 := { stood := { row := precfunTellsUptoRow, standIns := [], harness := (true, "db7bdb0548d0c54a0b090934271d67a0788e74c2344f001ffd91ca6a4bb23e78"), looks := true }, kinds := [], alts := [], laidByText := true, laidKinds := [.data, .handle, .sentinel, .sentinel, .sentinel, .sentinel, .sentinel, .sentinel, .sentinel, .sentinel, .sentinel, .sentinel, .sentinel, .sentinel, .sentinel, .sentinel, .sentinel], laidTests := true, laidLooks := .later }
def PrecfunTellsUptoCardSaid : Prop := Claim7.holds Tryz.pinned (.plain (OpenSpec.upto precfunTellsSpec)) precfunTellsUptoCard

/-- THE SECOND FORM's CARD OF 'dovetaillaw13.PrecfunFits'. -/
def precfunFitsUptoCard : Claim7 := { stood := { row := precfunFitsUptoRow, standIns := [], harness := (true, "db7bdb0548d0c54a0b090934271d67a0788e74c2344f001ffd91ca6a4bb23e78"), looks := true }, kinds := [], alts := [], laidByText := true, laidKinds := [.data, .sentinel, .sentinel, .sentinel, .sentinel, .sentinel, .sentinel, .sentinel, .sentinel, .sentinel, .sentinel, .sentinel, .sentinel, .sentinel, .sentinel, .sentinel], laidTests := true, laidLooks := .later }
def PrecfunFitsUptoCardSaid : Prop := Claim7.holds Tryz.pinned (.plain (OpenSpec.upto precfunFitsSpec)) precfunFitsUptoCard

/-- THE SECOND FORM's CARD OF 'dovetaillaw13.PrecfunKnown'. -/
def precfunKnownUptoCard : Claim7 := { stood := { row := precfunKnownUptoRow, standIns := [], harness := (true, "db7bdb0548d0c54a0b090934271d67a0788e74c2344f001ffd91ca6a4bb23e78"), looks := true }, kinds := [], alts := [], laidByText := true, laidKinds := [.data, .handle, .sentinel, .sentinel, .sentinel, .sentinel, .sentinel, .sentinel, .sentinel, .sentinel, .sentinel, .sentinel, .sentinel, .sentinel, .sentinel, .sentinel, .sentinel], laidTests := true, laidLooks := .later }
def PrecfunKnownUptoCardSaid : Prop := Claim7.holds Tryz.pinned (.plain (OpenSpec.upto precfunKnownSpec)) precfunKnownUptoCard

/-- THE SECOND FORM's CARD OF 'dovetaillaw13.PrecfunRight'. -/
def precfunRightUptoCard : Claim7 := { stood := { row := precfunRightUptoRow, standIns := [], harness := (true, "db7bdb0548d0c54a0b090934271d67a0788e74c2344f001ffd91ca6a4bb23e78"), looks := true }, kinds := [], alts := [], laidByText := true, laidKinds := [.data, .sentinel, .sentinel, .sentinel, .sentinel, .sentinel, .sentinel, .sentinel, .sentinel, .sentinel, .sentinel, .sentinel, .sentinel, .sentinel, .sentinel, .sentinel], laidTests := true, laidLooks := .later }
def PrecfunRightUptoCardSaid : Prop := Claim7.holds Tryz.pinned (.plain (OpenSpec.upto precfunRightSpec)) precfunRightUptoCard

/-- THE SECOND FORM's CARD OF 'dovetaillaw13.PrecfunLeast'. -/
def precfunLeastUptoCard : Claim7 := { stood := { row := precfunLeastUptoRow, standIns := [], harness := (true, "db7bdb0548d0c54a0b090934271d67a0788e74c2344f001ffd91ca6a4bb23e78"), looks := true }, kinds := [], alts := [], laidByText := true, laidKinds := [.data, .sentinel, .sentinel, .sentinel, .sentinel, .sentinel, .sentinel, .sentinel, .sentinel, .sentinel, .sentinel, .sentinel, .sentinel, .sentinel, .sentinel, .sentinel], laidTests := true, laidLooks := .later }
def PrecfunLeastUptoCardSaid : Prop := Claim7.holds Tryz.pinned (.plain (OpenSpec.upto precfunLeastSpec)) precfunLeastUptoCard
end Rows
end Go.Proofs.YtigepihinflkdaaGreatDoor

/-
  DERIVED. GIVEN WITH THE SEED: THE CARDS: each row of YtjblkgephboajaaGreatDoorRows.lean that lists a variable, with what it lists TIED to the program's text (the seventh form; the later family's looks); each row that meets fmt, with fmt's text TOLD by the authors' own Lean function (tested against real Go, not proved from fmt's source: count such statements apart). THE CARD IS WHAT COUNTS. Prove the row's statement (the work); the ties are given (YtjblkgephboajaaGreatDoorTie.lean); close each card by the builder's one call (the guide's Derived/Test/ToyasCard.lean, 'card_holds'). Laid BY PROGRAM, IN A SANDBOX (cutbox-door.mjs). By AI agents, Wed Nov 11 2026. No macro, syntax, notation, axiom, sorry.
-/
import Derived.Test.YtjblkgephboajaaGreatDoorRows
import GoSem.ClaimSeven
namespace Go.Proofs.YtjblkgephboajaaGreatDoor
namespace Rows

/-- THE TIED CARD OF 'dovetaillaw04.SpecReads'. -/
def specReadsCard : Claim7 := { stood := { row := specReadsRow, standIns := [], harness := (true, "ebab33352556432df0dea472cc4c24901d22af5cb3a200aadd33b08275cf0a29"), looks := true }, kinds := [], alts := [], laidByText := true, laidKinds := [.data, .handle, .sentinel, .sentinel, .sentinel, .sentinel, .sentinel, .sentinel, .sentinel, .sentinel, .sentinel, .sentinel, .sentinel, .sentinel, .sentinel, .sentinel, .sentinel, .pinned], laidTests := true, laidLooks := .later }
def SpecReadsCardSaid : Prop := Claim7.holds Tryz.pinned (.plain (OpenSpec.ofChange specReadsSpec)) specReadsCard

/-- THE TIED CARD OF 'dovetaillaw04.SpecKnown'. -/
def specKnownCard : Claim7 := { stood := { row := specKnownRow, standIns := [], harness := (true, "ebab33352556432df0dea472cc4c24901d22af5cb3a200aadd33b08275cf0a29"), looks := true }, kinds := [], alts := [], laidByText := true, laidKinds := [.data, .handle, .sentinel, .sentinel, .sentinel, .sentinel, .sentinel, .sentinel, .sentinel, .sentinel, .sentinel, .sentinel, .sentinel, .sentinel, .sentinel, .sentinel, .sentinel, .pinned], laidTests := true, laidLooks := .later }
def SpecKnownCardSaid : Prop := Claim7.holds Tryz.pinned (.plain (OpenSpec.ofChange specKnownSpec)) specKnownCard

/-- THE TIED CARD OF 'dovetaillaw04.SpecRight'. -/
def specRightCard : Claim7 := { stood := { row := specRightRow, standIns := [], harness := (true, "ebab33352556432df0dea472cc4c24901d22af5cb3a200aadd33b08275cf0a29"), looks := true }, kinds := [], alts := [], laidByText := true, laidKinds := [.data, .handle, .sentinel, .sentinel, .sentinel, .sentinel, .sentinel, .sentinel, .sentinel, .sentinel, .sentinel, .sentinel, .sentinel, .sentinel, .sentinel, .sentinel, .sentinel, .pinned], laidTests := true, laidLooks := .later }
def SpecRightCardSaid : Prop := Claim7.holds Tryz.pinned (.plain (OpenSpec.ofChange specRightSpec)) specRightCard

/-- THE TIED CARD OF 'dovetaillaw04.SpecLines'. -/
def specLinesCard : Claim7 := { stood := { row := specLinesRow, standIns := [], harness := (true, "ebab33352556432df0dea472cc4c24901d22af5cb3a200aadd33b08275cf0a29"), looks := true }, kinds := [], alts := [], laidByText := true, laidKinds := [.data, .handle, .sentinel, .sentinel, .sentinel, .sentinel, .sentinel, .sentinel, .sentinel, .sentinel, .sentinel, .sentinel, .sentinel, .sentinel, .sentinel, .sentinel, .sentinel, .pinned], laidTests := true, laidLooks := .later }
def SpecLinesCardSaid : Prop := Claim7.holds Tryz.pinned (.plain (OpenSpec.ofChange specLinesSpec)) specLinesCard

/-- THE SECOND FORM's CARD OF 'dovetaillaw04.SpecReads'. -/
def specReadsUptoCard : Claim7 := { stood := { row := specReadsUptoRow, standIns := [], harness := (true, "ebab33352556432df0dea472cc4c24901d22af5cb3a200aadd33b08275cf0a29"), looks := true }, kinds := [], alts := [], laidByText := true, laidKinds := [.data, .handle, .sentinel, .sentinel, .sentinel, .sentinel, .sentinel, .sentinel, .sentinel, .sentinel, .sentinel, .sentinel, .sentinel, .sentinel, .sentinel, .sentinel, .sentinel, .pinned], laidTests := true, laidLooks := .later }
def SpecReadsUptoCardSaid : Prop := Claim7.holds Tryz.pinned (.plain (OpenSpec.upto specReadsSpec)) specReadsUptoCard

/-- THE SECOND FORM's CARD OF 'dovetaillaw04.SpecKnown'. -/
def specKnownUptoCard : Claim7 := { stood := { row := specKnownUptoRow, standIns := [], harness := (true, "ebab33352556432df0dea472cc4c24901d22af5cb3a200aadd33b08275cf0a29"), looks := true }, kinds := [], alts := [], laidByText := true, laidKinds := [.data, .handle, .sentinel, .sentinel, .sentinel, .sentinel, .sentinel, .sentinel, .sentinel, .sentinel, .sentinel, .sentinel, .sentinel, .sentinel, .sentinel, .sentinel, .sentinel, .pinned], laidTests := true, laidLooks := .later }
def SpecKnownUptoCardSaid : Prop := Claim7.holds Tryz.pinned (.plain (OpenSpec.upto specKnownSpec)) specKnownUptoCard

/-- THE SECOND FORM's CARD OF 'dovetaillaw04.SpecRight'. -/
def specRightUptoCard : Claim7 := { stood := { row := specRightUptoRow, standIns := [], harness := (true, "ebab33352556432df0dea472cc4c24901d22af5cb3a200aadd33b08275cf0a29"), looks := true }, kinds := [], alts := [], laidByText := true, laidKinds := [.data, .handle, .sentinel, .sentinel, .sentinel, .sentinel, .sentinel, .sentinel, .sentinel, .sentinel, .sentinel, .sentinel, .sentinel, .sentinel, .sentinel, .sentinel, .sentinel, .pinned], laidTests := true, laidLooks := .later }
def SpecRightUptoCardSaid : Prop := Claim7.holds Tryz.pinned (.plain (OpenSpec.upto specRightSpec)) specRightUptoCard

/-- THE SECOND FORM's CARD OF 'dovetaillaw04.SpecLines'. -/
def specLinesUptoCard : Claim7 := { stood := { row := specLinesUptoRow, standIns := [], harness := (true, "ebab33352556432df0dea472cc4c24901d22af5cb3a200aadd33b08275cf0a29"), looks := true }, kinds := [], alts := [], laidByText := true, laidKinds := [.data, .handle, .sentinel, .sentinel, .sentinel, .sentinel, .sentinel, .sentinel, .sentinel, .sentinel, .sentinel, .sentinel, .sentinel, .sentinel, .sentinel, .sentinel, .sentinel, .pinned], laidTests := true, laidLooks := .later }
def SpecLinesUptoCardSaid : Prop := Claim7.holds Tryz.pinned (.plain (OpenSpec.upto specLinesSpec)) specLinesUptoCard
end Rows
end Go.Proofs.YtjblkgephboajaaGreatDoor

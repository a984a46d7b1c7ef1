/-
  DERIVED. GIVEN WITH THE SEED: THE CARDS: each row of YtcoepmpgclndiaaGreatDoorRows.lean that lists a variable, with what it lists TIED to the program's text (the seventh form; the later family's looks); each row that meets fmt, with fmt's text TOLD by the authors' own Lean function (tested against real Go, not proved from fmt's source: count such statements apart). THE CARD IS WHAT COUNTS. Prove the row's statement (the work); the ties are given (YtcoepmpgclndiaaGreatDoorTie.lean); close each card by the builder's one call (the guide's Derived/Test/ToyasCard.lean, 'card_holds'). Laid BY PROGRAM, IN A SANDBOX (cutbox-door.mjs). By AI agents, Wed Nov 11 2026. No macro, syntax, notation, axiom, sorry.
-/
import Derived.Test.YtcoepmpgclndiaaGreatDoorRows
import GoSem.ClaimSeven
namespace Go.Proofs.YtcoepmpgclndiaaGreatDoor
namespace Rows

/-- THE TIED CARD OF 'dovetaillaw13.PrecfunKnown'. -/
def precfunKnownCard : Claim7 := { stood := { row := precfunKnownRow, standIns := [], harness := (true, "77ae618b43473d092bb0861ab1c011af1c309c46cb6bc503c28c0e0af38e2654"), looks := true }, kinds := [], alts := [], laidByText := true, laidKinds := [.data, .handle, .sentinel, .sentinel, .sentinel, .sentinel, .sentinel, .sentinel, .sentinel, .sentinel, .sentinel, .sentinel, .sentinel, .sentinel, .sentinel, .sentinel, .sentinel], laidTests := true, laidLooks := .later }
def PrecfunKnownCardSaid : Prop := Claim7.holds Tryz.pinned (.plain (OpenSpec.ofChange precfunKnownSpec)) precfunKnownCard

/-- THE TIED CARD OF 'dovetaillaw13.PrecfunRight'. -/
def precfunRightCard : Claim7 := { stood := { row := precfunRightRow, standIns := [], harness := (true, "77ae618b43473d092bb0861ab1c011af1c309c46cb6bc503c28c0e0af38e2654"), looks := true }, kinds := [], alts := [], laidByText := true, laidKinds := [.data, .sentinel, .sentinel, .sentinel, .sentinel, .sentinel, .sentinel, .sentinel, .sentinel, .sentinel, .sentinel, .sentinel, .sentinel, .sentinel, .sentinel, .sentinel], laidTests := true, laidLooks := .later }
def PrecfunRightCardSaid : Prop := Claim7.holds Tryz.pinned (.plain (OpenSpec.ofChange precfunRightSpec)) precfunRightCard

/-- THE SECOND FORM's CARD OF 'dovetaillaw13.PrecfunKnown'. -/
def precfunKnownUptoCard : Claim7 := { stood := { row := precfunKnownUptoRow, standIns := [], harness := (true, "77ae618b43473d092bb0861ab1c011af1c309c46cb6bc503c28c0e0af38e2654"), looks := true }, kinds := [], alts := [], laidByText := true, laidKinds := [.data, .handle, .sentinel, .sentinel, .sentinel, .sentinel, .sentinel, .sentinel, .sentinel, .sentinel, .sentinel, .sentinel, .sentinel, .sentinel, .sentinel, .sentinel, .sentinel], laidTests := true, laidLooks := .later }
def PrecfunKnownUptoCardSaid : Prop := Claim7.holds Tryz.pinned (.plain (OpenSpec.upto precfunKnownSpec)) precfunKnownUptoCard

/-- THE SECOND FORM's CARD OF 'dovetaillaw13.PrecfunRight'. -/
def precfunRightUptoCard : Claim7 := { stood := { row := precfunRightUptoRow, standIns := [], harness := (true, "77ae618b43473d092bb0861ab1c011af1c309c46cb6bc503c28c0e0af38e2654"), looks := true }, kinds := [], alts := [], laidByText := true, laidKinds := [.data, .sentinel, .sentinel, .sentinel, .sentinel, .sentinel, .sentinel, .sentinel, .sentinel, .sentinel, .sentinel, .sentinel, .sentinel, .sentinel, .sentinel, .sentinel], laidTests := true, laidLooks := .later }
def PrecfunRightUptoCardSaid : Prop := Claim7.holds Tryz.pinned (.plain (OpenSpec.upto precfunRightSpec)) precfunRightUptoCard
end Rows
end Go.Proofs.YtcoepmpgclndiaaGreatDoor

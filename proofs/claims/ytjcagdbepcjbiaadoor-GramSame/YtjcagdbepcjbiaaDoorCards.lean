/-
  DERIVED. GIVEN WITH THE SEED: THE CARDS: each row of YtjcagdbepcjbiaaDoorRows.lean that lists a variable, with what it lists TIED to the program's text (the seventh form; the later family's looks); each row that meets fmt, with fmt's text TOLD by the authors' own Lean function (tested against real Go, not proved from fmt's source: count such statements apart). THE CARD IS WHAT COUNTS. Prove the row's statement (the work); the ties are given (YtjcagdbepcjbiaaDoorTie.lean); close each card by the builder's one call (the guide's Derived/Test/ToyasCard.lean, 'card_holds'). Laid BY PROGRAM, IN A SANDBOX (cutbox-door.mjs). By AI agents, Wed Nov 11 2026. No macro, syntax, notation, axiom, sorry.
-/
import Derived.Test.YtjcagdbepcjbiaaDoorRows
import GoSem.ClaimSeven
namespace Go.Proofs.YtjcagdbepcjbiaaDoor
namespace Rows

/-- THE TIED CARD OF 'dovetaillaw03.GramChecks'. -/
def gramChecksCard : Claim7 := { stood := { row := gramChecksRow, standIns := [], harness := (true, "4353ac855ff7616da1dc10eb5bd1aaee662859dbf4df7acd1d13eab6060100ed"), looks := true }, kinds := [], alts := [], laidByText := true, laidKinds := [.handle, .sentinel, .sentinel, .sentinel, .sentinel, .sentinel, .sentinel, .sentinel, .sentinel, .sentinel, .sentinel, .sentinel, .sentinel, .sentinel, .sentinel, .sentinel], laidTests := true, laidLooks := .later }
def GramChecksCardSaid : Prop := Claim7.holds Tryd.pinned (.plain (OpenSpec.ofChange gramChecksSpec)) gramChecksCard

/-- THE TIED CARD OF 'dovetaillaw03.GramNames'. -/
def gramNamesCard : Claim7 := { stood := { row := gramNamesRow, standIns := [], harness := (true, "4353ac855ff7616da1dc10eb5bd1aaee662859dbf4df7acd1d13eab6060100ed"), looks := true }, kinds := [], alts := [], laidByText := true, laidKinds := [.sentinel, .sentinel, .sentinel], laidTests := true, laidLooks := .later }
def GramNamesCardSaid : Prop := Claim7.holds Tryd.pinned (.plain (OpenSpec.ofChange gramNamesSpec)) gramNamesCard

/-- THE TIED CARD OF 'dovetaillaw03.GramSame'. -/
def gramSameCard : Claim7 := { stood := { row := gramSameRow, standIns := [], harness := (true, "4353ac855ff7616da1dc10eb5bd1aaee662859dbf4df7acd1d13eab6060100ed"), looks := true }, kinds := [], alts := [], laidByText := true, laidKinds := [.sentinel, .sentinel, .sentinel], laidTests := true, laidLooks := .later }
def GramSameCardSaid : Prop := Claim7.holds Tryd.pinned (.plain (OpenSpec.ofChange gramSameSpec)) gramSameCard

/-- THE TIED CARD OF 'dovetaillaw03.GramBuilds'. -/
def gramBuildsCard : Claim7 := { stood := { row := gramBuildsRow, standIns := [], harness := (true, "4353ac855ff7616da1dc10eb5bd1aaee662859dbf4df7acd1d13eab6060100ed"), looks := true }, kinds := [], alts := [], laidByText := true, laidKinds := [.handle, .sentinel, .sentinel, .sentinel, .sentinel, .sentinel, .sentinel, .sentinel, .sentinel, .sentinel, .sentinel, .sentinel, .sentinel, .sentinel, .sentinel, .sentinel], laidTests := true, laidLooks := .later }
def GramBuildsCardSaid : Prop := Claim7.holds Tryd.pinned (.plain (OpenSpec.ofChange gramBuildsSpec)) gramBuildsCard

/-- THE TIED CARD OF 'dovetaillaw03.GramKnown'. -/
def gramKnownCard : Claim7 := { stood := { row := gramKnownRow, standIns := [], harness := (true, "4353ac855ff7616da1dc10eb5bd1aaee662859dbf4df7acd1d13eab6060100ed"), looks := true }, kinds := [], alts := [], laidByText := true, laidKinds := [.handle, .sentinel, .sentinel, .sentinel, .sentinel, .sentinel, .sentinel, .sentinel, .sentinel, .sentinel, .sentinel, .sentinel, .sentinel, .sentinel, .sentinel, .sentinel], laidTests := true, laidLooks := .later }
def GramKnownCardSaid : Prop := Claim7.holds Tryd.pinned (.plain (OpenSpec.ofChange gramKnownSpec)) gramKnownCard

/-- THE TIED CARD OF 'dovetaillaw03.GramAbove'. -/
def gramAboveCard : Claim7 := { stood := { row := gramAboveRow, standIns := [], harness := (true, "4353ac855ff7616da1dc10eb5bd1aaee662859dbf4df7acd1d13eab6060100ed"), looks := true }, kinds := [], alts := [], laidByText := true, laidKinds := [.sentinel, .sentinel, .sentinel], laidTests := true, laidLooks := .later }
def GramAboveCardSaid : Prop := Claim7.holds Tryd.pinned (.plain (OpenSpec.ofChange gramAboveSpec)) gramAboveCard

/-- THE SECOND FORM's CARD OF 'dovetaillaw03.GramChecks'. -/
def gramChecksUptoCard : Claim7 := { stood := { row := gramChecksUptoRow, standIns := [], harness := (true, "4353ac855ff7616da1dc10eb5bd1aaee662859dbf4df7acd1d13eab6060100ed"), looks := true }, kinds := [], alts := [], laidByText := true, laidKinds := [.handle, .sentinel, .sentinel, .sentinel, .sentinel, .sentinel, .sentinel, .sentinel, .sentinel, .sentinel, .sentinel, .sentinel, .sentinel, .sentinel, .sentinel, .sentinel], laidTests := true, laidLooks := .later }
def GramChecksUptoCardSaid : Prop := Claim7.holds Tryd.pinned (.plain (OpenSpec.upto gramChecksSpec)) gramChecksUptoCard

/-- THE SECOND FORM's CARD OF 'dovetaillaw03.GramNames'. -/
def gramNamesUptoCard : Claim7 := { stood := { row := gramNamesUptoRow, standIns := [], harness := (true, "4353ac855ff7616da1dc10eb5bd1aaee662859dbf4df7acd1d13eab6060100ed"), looks := true }, kinds := [], alts := [], laidByText := true, laidKinds := [.sentinel, .sentinel, .sentinel], laidTests := true, laidLooks := .later }
def GramNamesUptoCardSaid : Prop := Claim7.holds Tryd.pinned (.plain (OpenSpec.upto gramNamesSpec)) gramNamesUptoCard

/-- THE SECOND FORM's CARD OF 'dovetaillaw03.GramSame'. -/
def gramSameUptoCard : Claim7 := { stood := { row := gramSameUptoRow, standIns := [], harness := (true, "4353ac855ff7616da1dc10eb5bd1aaee662859dbf4df7acd1d13eab6060100ed"), looks := true }, kinds := [], alts := [], laidByText := true, laidKinds := [.sentinel, .sentinel, .sentinel], laidTests := true, laidLooks := .later }
def GramSameUptoCardSaid : Prop := Claim7.holds Tryd.pinned (.plain (OpenSpec.upto gramSameSpec)) gramSameUptoCard

/-- THE SECOND FORM's CARD OF 'dovetaillaw03.GramBuilds'. -/
def gramBuildsUptoCard : Claim7 := { stood := { row := gramBuildsUptoRow, standIns := [], harness := (true, "4353ac855ff7616da1dc10eb5bd1aaee662859dbf4df7acd1d13eab6060100ed"), looks := true }, kinds := [], alts := [], laidByText := true, laidKinds := [.handle, .sentinel, .sentinel, .sentinel, .sentinel, .sentinel, .sentinel, .sentinel, .sentinel, .sentinel, .sentinel, .sentinel, .sentinel, .sentinel, .sentinel, .sentinel], laidTests := true, laidLooks := .later }
def GramBuildsUptoCardSaid : Prop := Claim7.holds Tryd.pinned (.plain (OpenSpec.upto gramBuildsSpec)) gramBuildsUptoCard

/-- THE SECOND FORM's CARD OF 'dovetaillaw03.GramKnown'. -/
def gramKnownUptoCard : Claim7 := { stood := { row := gramKnownUptoRow, standIns := [], harness := (true, "4353ac855ff7616da1dc10eb5bd1aaee662859dbf4df7acd1d13eab6060100ed"), looks := true }, kinds := [], alts := [], laidByText := true, laidKinds := [.handle, .sentinel, .sentinel, .sentinel, .sentinel, .sentinel, .sentinel, .sentinel, .sentinel, .sentinel, .sentinel, .sentinel, .sentinel, .sentinel, .sentinel, .sentinel], laidTests := true, laidLooks := .later }
def GramKnownUptoCardSaid : Prop := Claim7.holds Tryd.pinned (.plain (OpenSpec.upto gramKnownSpec)) gramKnownUptoCard

/-- THE SECOND FORM's CARD OF 'dovetaillaw03.GramAbove'. -/
def gramAboveUptoCard : Claim7 := { stood := { row := gramAboveUptoRow, standIns := [], harness := (true, "4353ac855ff7616da1dc10eb5bd1aaee662859dbf4df7acd1d13eab6060100ed"), looks := true }, kinds := [], alts := [], laidByText := true, laidKinds := [.sentinel, .sentinel, .sentinel], laidTests := true, laidLooks := .later }
def GramAboveUptoCardSaid : Prop := Claim7.holds Tryd.pinned (.plain (OpenSpec.upto gramAboveSpec)) gramAboveUptoCard
end Rows
end Go.Proofs.YtjcagdbepcjbiaaDoor

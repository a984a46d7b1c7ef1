/-
  DERIVED. GIVEN WITH THE SEED: THE CARDS: each row of YtmepnjnpfmgokaaDoorRows.lean that lists a variable, with what it lists TIED to the program's text (the seventh form; the later family's looks); each row that meets fmt, with fmt's text TOLD by the authors' own Lean function (tested against real Go, not proved from fmt's source: count such statements apart). THE CARD IS WHAT COUNTS. Prove the row's statement (the work); the ties are given (YtmepnjnpfmgokaaDoorTie.lean); close each card by the builder's one call (the guide's Derived/Test/ToyasCard.lean, 'card_holds'). Laid BY PROGRAM, IN A SANDBOX (cutbox-door.mjs). By AI agents, Wed Nov 11 2026. No macro, syntax, notation, axiom, sorry.
-/
import Derived.Test.YtmepnjnpfmgokaaDoorRows
import GoSem.ClaimSeven
namespace Go.Proofs.YtmepnjnpfmgokaaDoor
namespace Rows

/-- THE TIED CARD OF 'dovetaillaw08.EndsSets'. -/
def endsSetsCard : Claim7 := { stood := { row := endsSetsRow, standIns := [], harness := (true, "791832753c2a7ac4683b281a741a4f37c81f51d3af388553ee35134f43a894c8"), looks := true }, kinds := [], alts := [], laidByText := true, laidKinds := [.handle, .sentinel, .sentinel, .sentinel, .sentinel, .sentinel, .sentinel, .sentinel, .sentinel, .sentinel, .sentinel, .sentinel, .sentinel, .sentinel, .sentinel, .sentinel], laidTests := true, laidLooks := .later }
def EndsSetsCardSaid : Prop := Claim7.holds Tryd.pinned (.plain (OpenSpec.ofChange endsSetsSpec)) endsSetsCard

/-- THE TIED CARD OF 'dovetaillaw08.EndsChains'. -/
def endsChainsCard : Claim7 := { stood := { row := endsChainsRow, standIns := [], harness := (true, "791832753c2a7ac4683b281a741a4f37c81f51d3af388553ee35134f43a894c8"), looks := true }, kinds := [], alts := [], laidByText := true, laidKinds := [.handle, .sentinel, .sentinel, .sentinel, .sentinel, .sentinel, .sentinel, .sentinel, .sentinel, .sentinel, .sentinel, .sentinel, .sentinel, .sentinel, .sentinel, .sentinel], laidTests := true, laidLooks := .later }
def EndsChainsCardSaid : Prop := Claim7.holds Tryd.pinned (.plain (OpenSpec.ofChange endsChainsSpec)) endsChainsCard

/-- THE TIED CARD OF 'dovetaillaw08.EndsKnown'. -/
def endsKnownCard : Claim7 := { stood := { row := endsKnownRow, standIns := [], harness := (true, "791832753c2a7ac4683b281a741a4f37c81f51d3af388553ee35134f43a894c8"), looks := true }, kinds := [], alts := [], laidByText := true, laidKinds := [.sentinel, .sentinel, .sentinel, .sentinel, .sentinel, .sentinel, .sentinel, .sentinel, .sentinel, .sentinel, .sentinel, .sentinel, .sentinel, .sentinel, .sentinel], laidTests := true, laidLooks := .later }
def EndsKnownCardSaid : Prop := Claim7.holds Tryd.pinned (.plain (OpenSpec.ofChange endsKnownSpec)) endsKnownCard

/-- THE TIED CARD OF 'dovetaillaw08.EndsTurned'. -/
def endsTurnedCard : Claim7 := { stood := { row := endsTurnedRow, standIns := [], harness := (true, "791832753c2a7ac4683b281a741a4f37c81f51d3af388553ee35134f43a894c8"), looks := true }, kinds := [], alts := [], laidByText := true, laidKinds := [.sentinel, .sentinel, .sentinel, .sentinel, .sentinel, .sentinel, .sentinel, .sentinel, .sentinel, .sentinel, .sentinel, .sentinel, .sentinel, .sentinel, .sentinel], laidTests := true, laidLooks := .later }
def EndsTurnedCardSaid : Prop := Claim7.holds Tryd.pinned (.plain (OpenSpec.ofChange endsTurnedSpec)) endsTurnedCard

/-- THE TIED CARD OF 'dovetaillaw08.EndsWhy'. -/
def endsWhyCard : Claim7 := { stood := { row := endsWhyRow, standIns := [], harness := (true, "791832753c2a7ac4683b281a741a4f37c81f51d3af388553ee35134f43a894c8"), looks := true }, kinds := [], alts := [], laidByText := true, laidKinds := [.sentinel, .sentinel, .sentinel, .sentinel, .sentinel, .sentinel, .sentinel, .sentinel, .sentinel, .sentinel, .sentinel, .sentinel, .sentinel, .sentinel, .sentinel], laidTests := true, laidLooks := .later }
def EndsWhyCardSaid : Prop := Claim7.holds Tryd.pinned (.plain (OpenSpec.ofChange endsWhySpec)) endsWhyCard

/-- THE SECOND FORM's CARD OF 'dovetaillaw08.EndsSets'. -/
def endsSetsUptoCard : Claim7 := { stood := { row := endsSetsUptoRow, standIns := [], harness := (true, "791832753c2a7ac4683b281a741a4f37c81f51d3af388553ee35134f43a894c8"), looks := true }, kinds := [], alts := [], laidByText := true, laidKinds := [.handle, .sentinel, .sentinel, .sentinel, .sentinel, .sentinel, .sentinel, .sentinel, .sentinel, .sentinel, .sentinel, .sentinel, .sentinel, .sentinel, .sentinel, .sentinel], laidTests := true, laidLooks := .later }
def EndsSetsUptoCardSaid : Prop := Claim7.holds Tryd.pinned (.plain (OpenSpec.upto endsSetsSpec)) endsSetsUptoCard

/-- THE SECOND FORM's CARD OF 'dovetaillaw08.EndsChains'. -/
def endsChainsUptoCard : Claim7 := { stood := { row := endsChainsUptoRow, standIns := [], harness := (true, "791832753c2a7ac4683b281a741a4f37c81f51d3af388553ee35134f43a894c8"), looks := true }, kinds := [], alts := [], laidByText := true, laidKinds := [.handle, .sentinel, .sentinel, .sentinel, .sentinel, .sentinel, .sentinel, .sentinel, .sentinel, .sentinel, .sentinel, .sentinel, .sentinel, .sentinel, .sentinel, .sentinel], laidTests := true, laidLooks := .later }
def EndsChainsUptoCardSaid : Prop := Claim7.holds Tryd.pinned (.plain (OpenSpec.upto endsChainsSpec)) endsChainsUptoCard

/-- THE SECOND FORM's CARD OF 'dovetaillaw08.EndsKnown'. -/
def endsKnownUptoCard : Claim7 := { stood := { row := endsKnownUptoRow, standIns := [], harness := (true, "791832753c2a7ac4683b281a741a4f37c81f51d3af388553ee35134f43a894c8"), looks := true }, kinds := [], alts := [], laidByText := true, laidKinds := [.sentinel, .sentinel, .sentinel, .sentinel, .sentinel, .sentinel, .sentinel, .sentinel, .sentinel, .sentinel, .sentinel, .sentinel, .sentinel, .sentinel, .sentinel], laidTests := true, laidLooks := .later }
def EndsKnownUptoCardSaid : Prop := Claim7.holds Tryd.pinned (.plain (OpenSpec.upto endsKnownSpec)) endsKnownUptoCard

/-- THE SECOND FORM's CARD OF 'dovetaillaw08.EndsTurned'. -/
def endsTurnedUptoCard : Claim7 := { stood := { row := endsTurnedUptoRow, standIns := [], harness := (true, "791832753c2a7ac4683b281a741a4f37c81f51d3af388553ee35134f43a894c8"), looks := true }, kinds := [], alts := [], laidByText := true, laidKinds := [.sentinel, .sentinel, .sentinel, .sentinel, .sentinel, .sentinel, .sentinel, .sentinel, .sentinel, .sentinel, .sentinel, .sentinel, .sentinel, .sentinel, .sentinel], laidTests := true, laidLooks := .later }
def EndsTurnedUptoCardSaid : Prop := Claim7.holds Tryd.pinned (.plain (OpenSpec.upto endsTurnedSpec)) endsTurnedUptoCard

/-- THE SECOND FORM's CARD OF 'dovetaillaw08.EndsWhy'. -/
def endsWhyUptoCard : Claim7 := { stood := { row := endsWhyUptoRow, standIns := [], harness := (true, "791832753c2a7ac4683b281a741a4f37c81f51d3af388553ee35134f43a894c8"), looks := true }, kinds := [], alts := [], laidByText := true, laidKinds := [.sentinel, .sentinel, .sentinel, .sentinel, .sentinel, .sentinel, .sentinel, .sentinel, .sentinel, .sentinel, .sentinel, .sentinel, .sentinel, .sentinel, .sentinel], laidTests := true, laidLooks := .later }
def EndsWhyUptoCardSaid : Prop := Claim7.holds Tryd.pinned (.plain (OpenSpec.upto endsWhySpec)) endsWhyUptoCard
end Rows
end Go.Proofs.YtmepnjnpfmgokaaDoor

/-
  DERIVED. GIVEN WITH THE SEED: THE CARDS: each row of YtkagahaokimoiaaDoorRows.lean that lists a variable, with what it lists TIED to the program's text (the seventh form; the later family's looks); each row that meets fmt, with fmt's text TOLD by the authors' own Lean function (tested against real Go, not proved from fmt's source: count such statements apart). THE CARD IS WHAT COUNTS. Prove the row's statement (the work); the ties are given (YtkagahaokimoiaaDoorTie.lean); close each card by the builder's one call (the guide's Derived/Test/ToyasCard.lean, 'card_holds'). Laid BY PROGRAM, IN A SANDBOX (cutbox-door.mjs). By AI agents, Wed Nov 11 2026. No macro, syntax, notation, axiom, sorry.
-/
import Derived.Test.YtkagahaokimoiaaDoorRows
import GoSem.ClaimSeven
namespace Go.Proofs.YtkagahaokimoiaaDoor
namespace Rows

/-- THE TIED CARD OF 'dovetaillaw12.GraphLongest'. -/
def graphLongestCard : Claim7 := { stood := { row := graphLongestRow, standIns := [], harness := (true, "439f3b62caee24919dea644f389a1a07067d235b5180ab077b9cb034a322979d"), looks := true }, kinds := [], alts := [], laidByText := true, laidKinds := [.sentinel, .sentinel, .sentinel, .sentinel, .sentinel, .sentinel, .sentinel, .sentinel, .sentinel, .sentinel, .sentinel, .sentinel, .sentinel, .sentinel, .sentinel], laidTests := true, laidLooks := .later }
def GraphLongestCardSaid : Prop := Claim7.holds Tryd.pinned (.plain (OpenSpec.ofChange graphLongestSpec)) graphLongestCard

/-- THE TIED CARD OF 'dovetaillaw12.GraphLevels'. -/
def graphLevelsCard : Claim7 := { stood := { row := graphLevelsRow, standIns := [], harness := (true, "439f3b62caee24919dea644f389a1a07067d235b5180ab077b9cb034a322979d"), looks := true }, kinds := [], alts := [], laidByText := true, laidKinds := [.sentinel, .sentinel, .sentinel, .sentinel, .sentinel, .sentinel, .sentinel, .sentinel, .sentinel, .sentinel, .sentinel, .sentinel, .sentinel, .sentinel, .sentinel], laidTests := true, laidLooks := .later }
def GraphLevelsCardSaid : Prop := Claim7.holds Tryd.pinned (.plain (OpenSpec.ofChange graphLevelsSpec)) graphLevelsCard

/-- THE TIED CARD OF 'dovetaillaw12.GraphHang'. -/
def graphHangCard : Claim7 := { stood := { row := graphHangRow, standIns := [], harness := (true, "439f3b62caee24919dea644f389a1a07067d235b5180ab077b9cb034a322979d"), looks := true }, kinds := [], alts := [], laidByText := true, laidKinds := [.sentinel, .sentinel], laidTests := true, laidLooks := .later }
def GraphHangCardSaid : Prop := Claim7.holds Tryd.pinned (.plain (OpenSpec.ofChange graphHangSpec)) graphHangCard

/-- THE TIED CARD OF 'dovetaillaw12.GraphOwn'. -/
def graphOwnCard : Claim7 := { stood := { row := graphOwnRow, standIns := [], harness := (true, "439f3b62caee24919dea644f389a1a07067d235b5180ab077b9cb034a322979d"), looks := true }, kinds := [], alts := [], laidByText := true, laidKinds := [.sentinel, .sentinel, .sentinel], laidTests := true, laidLooks := .later }
def GraphOwnCardSaid : Prop := Claim7.holds Tryd.pinned (.plain (OpenSpec.ofChange graphOwnSpec)) graphOwnCard

/-- THE SECOND FORM's CARD OF 'dovetaillaw12.GraphLongest'. -/
def graphLongestUptoCard : Claim7 := { stood := { row := graphLongestUptoRow, standIns := [], harness := (true, "439f3b62caee24919dea644f389a1a07067d235b5180ab077b9cb034a322979d"), looks := true }, kinds := [], alts := [], laidByText := true, laidKinds := [.sentinel, .sentinel, .sentinel, .sentinel, .sentinel, .sentinel, .sentinel, .sentinel, .sentinel, .sentinel, .sentinel, .sentinel, .sentinel, .sentinel, .sentinel], laidTests := true, laidLooks := .later }
def GraphLongestUptoCardSaid : Prop := Claim7.holds Tryd.pinned (.plain (OpenSpec.upto graphLongestSpec)) graphLongestUptoCard

/-- THE SECOND FORM's CARD OF 'dovetaillaw12.GraphLevels'. -/
def graphLevelsUptoCard : Claim7 := { stood := { row := graphLevelsUptoRow, standIns := [], harness := (true, "439f3b62caee24919dea644f389a1a07067d235b5180ab077b9cb034a322979d"), looks := true }, kinds := [], alts := [], laidByText := true, laidKinds := [.sentinel, .sentinel, .sentinel, .sentinel, .sentinel, .sentinel, .sentinel, .sentinel, .sentinel, .sentinel, .sentinel, .sentinel, .sentinel, .sentinel, .sentinel], laidTests := true, laidLooks := .later }
def GraphLevelsUptoCardSaid : Prop := Claim7.holds Tryd.pinned (.plain (OpenSpec.upto graphLevelsSpec)) graphLevelsUptoCard

/-- THE SECOND FORM's CARD OF 'dovetaillaw12.GraphHang'. -/
def graphHangUptoCard : Claim7 := { stood := { row := graphHangUptoRow, standIns := [], harness := (true, "439f3b62caee24919dea644f389a1a07067d235b5180ab077b9cb034a322979d"), looks := true }, kinds := [], alts := [], laidByText := true, laidKinds := [.sentinel, .sentinel], laidTests := true, laidLooks := .later }
def GraphHangUptoCardSaid : Prop := Claim7.holds Tryd.pinned (.plain (OpenSpec.upto graphHangSpec)) graphHangUptoCard

/-- THE SECOND FORM's CARD OF 'dovetaillaw12.GraphOwn'. -/
def graphOwnUptoCard : Claim7 := { stood := { row := graphOwnUptoRow, standIns := [], harness := (true, "439f3b62caee24919dea644f389a1a07067d235b5180ab077b9cb034a322979d"), looks := true }, kinds := [], alts := [], laidByText := true, laidKinds := [.sentinel, .sentinel, .sentinel], laidTests := true, laidLooks := .later }
def GraphOwnUptoCardSaid : Prop := Claim7.holds Tryd.pinned (.plain (OpenSpec.upto graphOwnSpec)) graphOwnUptoCard
end Rows
end Go.Proofs.YtkagahaokimoiaaDoor

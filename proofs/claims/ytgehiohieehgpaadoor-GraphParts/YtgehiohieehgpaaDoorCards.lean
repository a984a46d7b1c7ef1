/-
  DERIVED. GIVEN WITH THE SEED: THE CARDS: each row of YtgehiohieehgpaaDoorRows.lean that lists a variable, with what it lists TIED to the program's text (the seventh form; the later family's looks); each row that meets fmt, with fmt's text TOLD by the authors' own Lean function (tested against real Go, not proved from fmt's source: count such statements apart). THE CARD IS WHAT COUNTS. Prove the row's statement (the work); the ties are given (YtgehiohieehgpaaDoorTie.lean); close each card by the builder's one call (the guide's Derived/Test/ToyasCard.lean, 'card_holds'). Laid BY PROGRAM, IN A SANDBOX (cutbox-door.mjs). By AI agents, Wed Nov 11 2026. No macro, syntax, notation, axiom, sorry.
-/
import Derived.Test.YtgehiohieehgpaaDoorRows
import GoSem.ClaimSeven
namespace Go.Proofs.YtgehiohieehgpaaDoor
namespace Rows

/-- THE TIED CARD OF 'dovetaillaw12.GraphParts'. -/
def graphPartsCard : Claim7 := { stood := { row := graphPartsRow, standIns := [], harness := (true, "7a9b0d52bcce03ece64fdffa7260c31895b75a95a025c22f81baf79299bb918e"), looks := true }, kinds := [], alts := [], laidByText := true, laidKinds := [.sentinel, .sentinel, .sentinel, .sentinel, .sentinel, .sentinel, .sentinel, .sentinel, .sentinel, .sentinel, .sentinel, .sentinel, .sentinel, .sentinel, .sentinel], laidTests := true, laidLooks := .later }
def GraphPartsCardSaid : Prop := Claim7.holds Tryd.pinned (.plain (OpenSpec.ofChange graphPartsSpec)) graphPartsCard

/-- THE TIED CARD OF 'dovetaillaw12.GraphLongest'. -/
def graphLongestCard : Claim7 := { stood := { row := graphLongestRow, standIns := [], harness := (true, "7a9b0d52bcce03ece64fdffa7260c31895b75a95a025c22f81baf79299bb918e"), looks := true }, kinds := [], alts := [], laidByText := true, laidKinds := [.sentinel, .sentinel, .sentinel, .sentinel, .sentinel, .sentinel, .sentinel, .sentinel, .sentinel, .sentinel, .sentinel, .sentinel, .sentinel, .sentinel, .sentinel], laidTests := true, laidLooks := .later }
def GraphLongestCardSaid : Prop := Claim7.holds Tryd.pinned (.plain (OpenSpec.ofChange graphLongestSpec)) graphLongestCard

/-- THE TIED CARD OF 'dovetaillaw12.GraphReach'. -/
def graphReachCard : Claim7 := { stood := { row := graphReachRow, standIns := [], harness := (true, "7a9b0d52bcce03ece64fdffa7260c31895b75a95a025c22f81baf79299bb918e"), looks := true }, kinds := [], alts := [], laidByText := true, laidKinds := [.sentinel, .sentinel, .sentinel, .sentinel, .sentinel, .sentinel, .sentinel, .sentinel, .sentinel, .sentinel, .sentinel, .sentinel, .sentinel, .sentinel, .sentinel], laidTests := true, laidLooks := .later }
def GraphReachCardSaid : Prop := Claim7.holds Tryd.pinned (.plain (OpenSpec.ofChange graphReachSpec)) graphReachCard

/-- THE TIED CARD OF 'dovetaillaw12.GraphLevels'. -/
def graphLevelsCard : Claim7 := { stood := { row := graphLevelsRow, standIns := [], harness := (true, "7a9b0d52bcce03ece64fdffa7260c31895b75a95a025c22f81baf79299bb918e"), looks := true }, kinds := [], alts := [], laidByText := true, laidKinds := [.sentinel, .sentinel, .sentinel, .sentinel, .sentinel, .sentinel, .sentinel, .sentinel, .sentinel, .sentinel, .sentinel, .sentinel, .sentinel, .sentinel, .sentinel], laidTests := true, laidLooks := .later }
def GraphLevelsCardSaid : Prop := Claim7.holds Tryd.pinned (.plain (OpenSpec.ofChange graphLevelsSpec)) graphLevelsCard

/-- THE TIED CARD OF 'dovetaillaw12.GraphHang'. -/
def graphHangCard : Claim7 := { stood := { row := graphHangRow, standIns := [], harness := (true, "7a9b0d52bcce03ece64fdffa7260c31895b75a95a025c22f81baf79299bb918e"), looks := true }, kinds := [], alts := [], laidByText := true, laidKinds := [.sentinel, .sentinel], laidTests := true, laidLooks := .later }
def GraphHangCardSaid : Prop := Claim7.holds Tryd.pinned (.plain (OpenSpec.ofChange graphHangSpec)) graphHangCard

/-- THE TIED CARD OF 'dovetaillaw12.GraphMixed'. -/
def graphMixedCard : Claim7 := { stood := { row := graphMixedRow, standIns := [], harness := (true, "7a9b0d52bcce03ece64fdffa7260c31895b75a95a025c22f81baf79299bb918e"), looks := true }, kinds := [], alts := [], laidByText := true, laidKinds := [.sentinel, .sentinel, .sentinel, .sentinel, .sentinel, .sentinel, .sentinel, .sentinel, .sentinel, .sentinel, .sentinel, .sentinel, .sentinel, .sentinel, .sentinel], laidTests := true, laidLooks := .later }
def GraphMixedCardSaid : Prop := Claim7.holds Tryd.pinned (.plain (OpenSpec.ofChange graphMixedSpec)) graphMixedCard

/-- THE SECOND FORM's CARD OF 'dovetaillaw12.GraphParts'. -/
def graphPartsUptoCard : Claim7 := { stood := { row := graphPartsUptoRow, standIns := [], harness := (true, "7a9b0d52bcce03ece64fdffa7260c31895b75a95a025c22f81baf79299bb918e"), looks := true }, kinds := [], alts := [], laidByText := true, laidKinds := [.sentinel, .sentinel, .sentinel, .sentinel, .sentinel, .sentinel, .sentinel, .sentinel, .sentinel, .sentinel, .sentinel, .sentinel, .sentinel, .sentinel, .sentinel], laidTests := true, laidLooks := .later }
def GraphPartsUptoCardSaid : Prop := Claim7.holds Tryd.pinned (.plain (OpenSpec.upto graphPartsSpec)) graphPartsUptoCard

/-- THE SECOND FORM's CARD OF 'dovetaillaw12.GraphLongest'. -/
def graphLongestUptoCard : Claim7 := { stood := { row := graphLongestUptoRow, standIns := [], harness := (true, "7a9b0d52bcce03ece64fdffa7260c31895b75a95a025c22f81baf79299bb918e"), looks := true }, kinds := [], alts := [], laidByText := true, laidKinds := [.sentinel, .sentinel, .sentinel, .sentinel, .sentinel, .sentinel, .sentinel, .sentinel, .sentinel, .sentinel, .sentinel, .sentinel, .sentinel, .sentinel, .sentinel], laidTests := true, laidLooks := .later }
def GraphLongestUptoCardSaid : Prop := Claim7.holds Tryd.pinned (.plain (OpenSpec.upto graphLongestSpec)) graphLongestUptoCard

/-- THE SECOND FORM's CARD OF 'dovetaillaw12.GraphReach'. -/
def graphReachUptoCard : Claim7 := { stood := { row := graphReachUptoRow, standIns := [], harness := (true, "7a9b0d52bcce03ece64fdffa7260c31895b75a95a025c22f81baf79299bb918e"), looks := true }, kinds := [], alts := [], laidByText := true, laidKinds := [.sentinel, .sentinel, .sentinel, .sentinel, .sentinel, .sentinel, .sentinel, .sentinel, .sentinel, .sentinel, .sentinel, .sentinel, .sentinel, .sentinel, .sentinel], laidTests := true, laidLooks := .later }
def GraphReachUptoCardSaid : Prop := Claim7.holds Tryd.pinned (.plain (OpenSpec.upto graphReachSpec)) graphReachUptoCard

/-- THE SECOND FORM's CARD OF 'dovetaillaw12.GraphLevels'. -/
def graphLevelsUptoCard : Claim7 := { stood := { row := graphLevelsUptoRow, standIns := [], harness := (true, "7a9b0d52bcce03ece64fdffa7260c31895b75a95a025c22f81baf79299bb918e"), looks := true }, kinds := [], alts := [], laidByText := true, laidKinds := [.sentinel, .sentinel, .sentinel, .sentinel, .sentinel, .sentinel, .sentinel, .sentinel, .sentinel, .sentinel, .sentinel, .sentinel, .sentinel, .sentinel, .sentinel], laidTests := true, laidLooks := .later }
def GraphLevelsUptoCardSaid : Prop := Claim7.holds Tryd.pinned (.plain (OpenSpec.upto graphLevelsSpec)) graphLevelsUptoCard

/-- THE SECOND FORM's CARD OF 'dovetaillaw12.GraphHang'. -/
def graphHangUptoCard : Claim7 := { stood := { row := graphHangUptoRow, standIns := [], harness := (true, "7a9b0d52bcce03ece64fdffa7260c31895b75a95a025c22f81baf79299bb918e"), looks := true }, kinds := [], alts := [], laidByText := true, laidKinds := [.sentinel, .sentinel], laidTests := true, laidLooks := .later }
def GraphHangUptoCardSaid : Prop := Claim7.holds Tryd.pinned (.plain (OpenSpec.upto graphHangSpec)) graphHangUptoCard

/-- THE SECOND FORM's CARD OF 'dovetaillaw12.GraphMixed'. -/
def graphMixedUptoCard : Claim7 := { stood := { row := graphMixedUptoRow, standIns := [], harness := (true, "7a9b0d52bcce03ece64fdffa7260c31895b75a95a025c22f81baf79299bb918e"), looks := true }, kinds := [], alts := [], laidByText := true, laidKinds := [.sentinel, .sentinel, .sentinel, .sentinel, .sentinel, .sentinel, .sentinel, .sentinel, .sentinel, .sentinel, .sentinel, .sentinel, .sentinel, .sentinel, .sentinel], laidTests := true, laidLooks := .later }
def GraphMixedUptoCardSaid : Prop := Claim7.holds Tryd.pinned (.plain (OpenSpec.upto graphMixedSpec)) graphMixedUptoCard
end Rows
end Go.Proofs.YtgehiohieehgpaaDoor

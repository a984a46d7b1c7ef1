/-
  DERIVED. GIVEN WITH THE SEED: THE CARDS: each row of YtgllcbajgndldaaDoorRows.lean that lists a variable, with what it lists TIED to the program's text (the seventh form; the later family's looks); each row that meets fmt, with fmt's text TOLD by the authors' own Lean function (tested against real Go, not proved from fmt's source: count such statements apart). THE CARD IS WHAT COUNTS. Prove the row's statement (the work); the ties are given (YtgllcbajgndldaaDoorTie.lean); close each card by the builder's one call (the guide's Derived/Test/ToyasCard.lean, 'card_holds'). Laid BY PROGRAM, IN A SANDBOX (cutbox-door.mjs). By AI agents, Wed Nov 11 2026. No macro, syntax, notation, axiom, sorry.
-/
import Derived.Test.YtgllcbajgndldaaDoorRows
import GoSem.ClaimSeven
namespace Go.Proofs.YtgllcbajgndldaaDoor
namespace Rows

/-- THE TIED CARD OF 'dovetaillaw12.GraphLongest'. -/
def graphLongestCard : Claim7 := { stood := { row := graphLongestRow, standIns := [], harness := (true, "d18e21f985c64fb1c175f1f2e05d2265be9fd85d2eed24916754c2c837b54ebe"), looks := true }, kinds := [], alts := [], laidByText := true, laidKinds := [.sentinel, .sentinel, .sentinel, .sentinel, .sentinel, .sentinel, .sentinel, .sentinel, .sentinel, .sentinel, .sentinel, .sentinel, .sentinel, .sentinel, .sentinel], laidTests := true, laidLooks := .later }
def GraphLongestCardSaid : Prop := Claim7.holds Tryd.pinned (.plain (OpenSpec.ofChange graphLongestSpec)) graphLongestCard

/-- THE TIED CARD OF 'dovetaillaw12.GraphOwn'. -/
def graphOwnCard : Claim7 := { stood := { row := graphOwnRow, standIns := [], harness := (true, "d18e21f985c64fb1c175f1f2e05d2265be9fd85d2eed24916754c2c837b54ebe"), looks := true }, kinds := [], alts := [], laidByText := true, laidKinds := [.sentinel, .sentinel, .sentinel], laidTests := true, laidLooks := .later }
def GraphOwnCardSaid : Prop := Claim7.holds Tryd.pinned (.plain (OpenSpec.ofChange graphOwnSpec)) graphOwnCard

/-- THE SECOND FORM's CARD OF 'dovetaillaw12.GraphLongest'. -/
def graphLongestUptoCard : Claim7 := { stood := { row := graphLongestUptoRow, standIns := [], harness := (true, "d18e21f985c64fb1c175f1f2e05d2265be9fd85d2eed24916754c2c837b54ebe"), looks := true }, kinds := [], alts := [], laidByText := true, laidKinds := [.sentinel, .sentinel, .sentinel, .sentinel, .sentinel, .sentinel, .sentinel, .sentinel, .sentinel, .sentinel, .sentinel, .sentinel, .sentinel, .sentinel, .sentinel], laidTests := true, laidLooks := .later }
def GraphLongestUptoCardSaid : Prop := Claim7.holds Tryd.pinned (.plain (OpenSpec.upto graphLongestSpec)) graphLongestUptoCard

/-- THE SECOND FORM's CARD OF 'dovetaillaw12.GraphOwn'. -/
def graphOwnUptoCard : Claim7 := { stood := { row := graphOwnUptoRow, standIns := [], harness := (true, "d18e21f985c64fb1c175f1f2e05d2265be9fd85d2eed24916754c2c837b54ebe"), looks := true }, kinds := [], alts := [], laidByText := true, laidKinds := [.sentinel, .sentinel, .sentinel], laidTests := true, laidLooks := .later }
def GraphOwnUptoCardSaid : Prop := Claim7.holds Tryd.pinned (.plain (OpenSpec.upto graphOwnSpec)) graphOwnUptoCard
end Rows
end Go.Proofs.YtgllcbajgndldaaDoor

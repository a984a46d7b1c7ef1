/-
  DERIVED. GIVEN WITH THE SEED: THE CARDS: each row of YtkjjdmdlkdoedaaDoorRows.lean that lists a variable, with what it lists TIED to the program's text (the seventh form; the later family's looks); each row that meets fmt, with fmt's text TOLD by the authors' own Lean function (tested against real Go, not proved from fmt's source: count such statements apart). THE CARD IS WHAT COUNTS. Prove the row's statement (the work); the ties are given (YtkjjdmdlkdoedaaDoorTie.lean); close each card by the builder's one call (the guide's Derived/Test/ToyasCard.lean, 'card_holds'). Laid BY PROGRAM, IN A SANDBOX (cutbox-door.mjs). By AI agents, Wed Nov 11 2026. No macro, syntax, notation, axiom, sorry.
-/
import Derived.Test.YtkjjdmdlkdoedaaDoorRows
import GoSem.ClaimSeven
namespace Go.Proofs.YtkjjdmdlkdoedaaDoor
namespace Rows

/-- THE TIED CARD OF 'dovetaillaw01.SetsAlgebra'. -/
def setsAlgebraCard : Claim7 := { stood := { row := setsAlgebraRow, standIns := [], harness := (true, "be9a012c5d830e82ac5a74f9e197fa8f6aae1c7dc7f6266aa543ed22b50760f6"), looks := false }, kinds := [], alts := [], laidByText := true, laidKinds := [.data], laidTests := true, laidLooks := .later }
def SetsAlgebraCardSaid : Prop := Claim7.holds Tryd.pinned (.plain (OpenSpec.ofChange setsAlgebraSpec)) setsAlgebraCard

/-- THE TIED CARD OF 'dovetaillaw01.SetsLists'. -/
def setsListsCard : Claim7 := { stood := { row := setsListsRow, standIns := [], harness := (true, "be9a012c5d830e82ac5a74f9e197fa8f6aae1c7dc7f6266aa543ed22b50760f6"), looks := false }, kinds := [], alts := [], laidByText := true, laidKinds := [.data, .data, .data], laidTests := true, laidLooks := .later }
def SetsListsCardSaid : Prop := Claim7.holds Tryd.pinned (.plain (OpenSpec.ofChange setsListsSpec)) setsListsCard

/-- THE TIED CARD OF 'dovetaillaw01.SetsLaws'. -/
def setsLawsCard : Claim7 := { stood := { row := setsLawsRow, standIns := [], harness := (true, "be9a012c5d830e82ac5a74f9e197fa8f6aae1c7dc7f6266aa543ed22b50760f6"), looks := false }, kinds := [], alts := [], laidByText := true, laidKinds := [.data, .data, .data], laidTests := true, laidLooks := .later }
def SetsLawsCardSaid : Prop := Claim7.holds Tryd.pinned (.plain (OpenSpec.ofChange setsLawsSpec)) setsLawsCard

/-- THE TIED CARD OF 'dovetaillaw01.SetsOrder'. -/
def setsOrderCard : Claim7 := { stood := { row := setsOrderRow, standIns := [], harness := (true, "be9a012c5d830e82ac5a74f9e197fa8f6aae1c7dc7f6266aa543ed22b50760f6"), looks := false }, kinds := [], alts := [], laidByText := true, laidKinds := [.data, .data, .data], laidTests := true, laidLooks := .later }
def SetsOrderCardSaid : Prop := Claim7.holds Tryd.pinned (.plain (OpenSpec.ofChange setsOrderSpec)) setsOrderCard

/-- THE TIED CARD OF 'dovetaillaw01.SetsOwn'. -/
def setsOwnCard : Claim7 := { stood := { row := setsOwnRow, standIns := [], harness := (true, "be9a012c5d830e82ac5a74f9e197fa8f6aae1c7dc7f6266aa543ed22b50760f6"), looks := false }, kinds := [], alts := [], laidByText := true, laidKinds := [.data, .data, .data], laidTests := true, laidLooks := .later }
def SetsOwnCardSaid : Prop := Claim7.holds Tryd.pinned (.plain (OpenSpec.ofChange setsOwnSpec)) setsOwnCard

/-- THE SECOND FORM's CARD OF 'dovetaillaw01.SetsAlgebra'. -/
def setsAlgebraUptoCard : Claim7 := { stood := { row := setsAlgebraUptoRow, standIns := [], harness := (true, "be9a012c5d830e82ac5a74f9e197fa8f6aae1c7dc7f6266aa543ed22b50760f6"), looks := false }, kinds := [], alts := [], laidByText := true, laidKinds := [.data], laidTests := true, laidLooks := .later }
def SetsAlgebraUptoCardSaid : Prop := Claim7.holds Tryd.pinned (.plain (OpenSpec.upto setsAlgebraSpec)) setsAlgebraUptoCard

/-- THE SECOND FORM's CARD OF 'dovetaillaw01.SetsLists'. -/
def setsListsUptoCard : Claim7 := { stood := { row := setsListsUptoRow, standIns := [], harness := (true, "be9a012c5d830e82ac5a74f9e197fa8f6aae1c7dc7f6266aa543ed22b50760f6"), looks := false }, kinds := [], alts := [], laidByText := true, laidKinds := [.data, .data, .data], laidTests := true, laidLooks := .later }
def SetsListsUptoCardSaid : Prop := Claim7.holds Tryd.pinned (.plain (OpenSpec.upto setsListsSpec)) setsListsUptoCard

/-- THE SECOND FORM's CARD OF 'dovetaillaw01.SetsLaws'. -/
def setsLawsUptoCard : Claim7 := { stood := { row := setsLawsUptoRow, standIns := [], harness := (true, "be9a012c5d830e82ac5a74f9e197fa8f6aae1c7dc7f6266aa543ed22b50760f6"), looks := false }, kinds := [], alts := [], laidByText := true, laidKinds := [.data, .data, .data], laidTests := true, laidLooks := .later }
def SetsLawsUptoCardSaid : Prop := Claim7.holds Tryd.pinned (.plain (OpenSpec.upto setsLawsSpec)) setsLawsUptoCard

/-- THE SECOND FORM's CARD OF 'dovetaillaw01.SetsOrder'. -/
def setsOrderUptoCard : Claim7 := { stood := { row := setsOrderUptoRow, standIns := [], harness := (true, "be9a012c5d830e82ac5a74f9e197fa8f6aae1c7dc7f6266aa543ed22b50760f6"), looks := false }, kinds := [], alts := [], laidByText := true, laidKinds := [.data, .data, .data], laidTests := true, laidLooks := .later }
def SetsOrderUptoCardSaid : Prop := Claim7.holds Tryd.pinned (.plain (OpenSpec.upto setsOrderSpec)) setsOrderUptoCard

/-- THE SECOND FORM's CARD OF 'dovetaillaw01.SetsOwn'. -/
def setsOwnUptoCard : Claim7 := { stood := { row := setsOwnUptoRow, standIns := [], harness := (true, "be9a012c5d830e82ac5a74f9e197fa8f6aae1c7dc7f6266aa543ed22b50760f6"), looks := false }, kinds := [], alts := [], laidByText := true, laidKinds := [.data, .data, .data], laidTests := true, laidLooks := .later }
def SetsOwnUptoCardSaid : Prop := Claim7.holds Tryd.pinned (.plain (OpenSpec.upto setsOwnSpec)) setsOwnUptoCard
end Rows
end Go.Proofs.YtkjjdmdlkdoedaaDoor

/-
  DERIVED. GIVEN WITH THE SEED: THE CARDS: each row of YtnlaffhhbabjaaaDoorRows.lean that lists a variable, with what it lists TIED to the program's text (the seventh form; the later family's looks); each row that meets fmt, with fmt's text TOLD by the authors' own Lean function (tested against real Go, not proved from fmt's source: count such statements apart). THE CARD IS WHAT COUNTS. Prove the row's statement (the work); the ties are given (YtnlaffhhbabjaaaDoorTie.lean); close each card by the builder's one call (the guide's Derived/Test/ToyasCard.lean, 'card_holds'). Laid BY PROGRAM, IN A SANDBOX (cutbox-door.mjs). By AI agents, Wed Nov 11 2026. No macro, syntax, notation, axiom, sorry.
-/
import Derived.Test.YtnlaffhhbabjaaaDoorRows
import GoSem.ClaimSeven
namespace Go.Proofs.YtnlaffhhbabjaaaDoor
namespace Rows

/-- THE TIED CARD OF 'dovetaillaw07.UsefulTrims'. -/
def usefulTrimsCard : Claim7 := { stood := { row := usefulTrimsRow, standIns := [], harness := (true, "9ab33e586cf656cfc03396c5f476226b82f50b3cc4a59d2da15296ed78cf66fd"), looks := true }, kinds := [], alts := [], laidByText := true, laidKinds := [.data, .sentinel, .sentinel, .sentinel, .sentinel, .sentinel, .sentinel, .sentinel, .sentinel, .sentinel, .sentinel, .sentinel, .sentinel, .sentinel, .sentinel, .sentinel], laidTests := true, laidLooks := .later }
def UsefulTrimsCardSaid : Prop := Claim7.holds Tryd.pinned (.plain (OpenSpec.ofChange usefulTrimsSpec)) usefulTrimsCard

/-- THE TIED CARD OF 'dovetaillaw07.UsefulTrimmed'. -/
def usefulTrimmedCard : Claim7 := { stood := { row := usefulTrimmedRow, standIns := [], harness := (true, "9ab33e586cf656cfc03396c5f476226b82f50b3cc4a59d2da15296ed78cf66fd"), looks := true }, kinds := [], alts := [], laidByText := true, laidKinds := [.data, .sentinel, .sentinel, .sentinel, .sentinel, .sentinel, .sentinel, .sentinel, .sentinel, .sentinel, .sentinel, .sentinel, .sentinel, .sentinel, .sentinel, .sentinel], laidTests := true, laidLooks := .later }
def UsefulTrimmedCardSaid : Prop := Claim7.holds Tryd.pinned (.plain (OpenSpec.ofChange usefulTrimmedSpec)) usefulTrimmedCard

/-- THE SECOND FORM's CARD OF 'dovetaillaw07.UsefulTrims'. -/
def usefulTrimsUptoCard : Claim7 := { stood := { row := usefulTrimsUptoRow, standIns := [], harness := (true, "9ab33e586cf656cfc03396c5f476226b82f50b3cc4a59d2da15296ed78cf66fd"), looks := true }, kinds := [], alts := [], laidByText := true, laidKinds := [.data, .sentinel, .sentinel, .sentinel, .sentinel, .sentinel, .sentinel, .sentinel, .sentinel, .sentinel, .sentinel, .sentinel, .sentinel, .sentinel, .sentinel, .sentinel], laidTests := true, laidLooks := .later }
def UsefulTrimsUptoCardSaid : Prop := Claim7.holds Tryd.pinned (.plain (OpenSpec.upto usefulTrimsSpec)) usefulTrimsUptoCard

/-- THE SECOND FORM's CARD OF 'dovetaillaw07.UsefulTrimmed'. -/
def usefulTrimmedUptoCard : Claim7 := { stood := { row := usefulTrimmedUptoRow, standIns := [], harness := (true, "9ab33e586cf656cfc03396c5f476226b82f50b3cc4a59d2da15296ed78cf66fd"), looks := true }, kinds := [], alts := [], laidByText := true, laidKinds := [.data, .sentinel, .sentinel, .sentinel, .sentinel, .sentinel, .sentinel, .sentinel, .sentinel, .sentinel, .sentinel, .sentinel, .sentinel, .sentinel, .sentinel, .sentinel], laidTests := true, laidLooks := .later }
def UsefulTrimmedUptoCardSaid : Prop := Claim7.holds Tryd.pinned (.plain (OpenSpec.upto usefulTrimmedSpec)) usefulTrimmedUptoCard
end Rows
end Go.Proofs.YtnlaffhhbabjaaaDoor

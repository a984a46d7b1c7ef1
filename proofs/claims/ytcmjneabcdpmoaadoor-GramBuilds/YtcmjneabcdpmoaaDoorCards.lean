/-
  DERIVED. GIVEN WITH THE SEED: THE CARDS: each row of YtcmjneabcdpmoaaDoorRows.lean that lists a variable, with what it lists TIED to the program's text (the seventh form; the later family's looks); each row that meets fmt, with fmt's text TOLD by the authors' own Lean function (tested against real Go, not proved from fmt's source: count such statements apart). THE CARD IS WHAT COUNTS. Prove the row's statement (the work); the ties are given (YtcmjneabcdpmoaaDoorTie.lean); close each card by the builder's one call (the guide's Derived/Test/ToyasCard.lean, 'card_holds'). Laid BY PROGRAM, IN A SANDBOX (cutbox-door.mjs). By AI agents, Wed Nov 11 2026. No macro, syntax, notation, axiom, sorry.
-/
import Derived.Test.YtcmjneabcdpmoaaDoorRows
import GoSem.ClaimSeven
namespace Go.Proofs.YtcmjneabcdpmoaaDoor
namespace Rows

/-- THE TIED CARD OF 'dovetaillaw03.GramBuilds'. -/
def gramBuildsCard : Claim7 := { stood := { row := gramBuildsRow, standIns := [], harness := (true, "6300699d1300e846bed612e6e31862cb31b12ded937ef835752f36bb03e64159"), looks := true }, kinds := [], alts := [], laidByText := true, laidKinds := [.handle, .sentinel, .sentinel, .sentinel, .sentinel, .sentinel, .sentinel, .sentinel, .sentinel, .sentinel, .sentinel, .sentinel, .sentinel, .sentinel, .sentinel, .sentinel], laidTests := true, laidLooks := .later }
def GramBuildsCardSaid : Prop := Claim7.holds Tryd.pinned (.plain (OpenSpec.ofChange gramBuildsSpec)) gramBuildsCard

/-- THE SECOND FORM's CARD OF 'dovetaillaw03.GramBuilds'. -/
def gramBuildsUptoCard : Claim7 := { stood := { row := gramBuildsUptoRow, standIns := [], harness := (true, "6300699d1300e846bed612e6e31862cb31b12ded937ef835752f36bb03e64159"), looks := true }, kinds := [], alts := [], laidByText := true, laidKinds := [.handle, .sentinel, .sentinel, .sentinel, .sentinel, .sentinel, .sentinel, .sentinel, .sentinel, .sentinel, .sentinel, .sentinel, .sentinel, .sentinel, .sentinel, .sentinel], laidTests := true, laidLooks := .later }
def GramBuildsUptoCardSaid : Prop := Claim7.holds Tryd.pinned (.plain (OpenSpec.upto gramBuildsSpec)) gramBuildsUptoCard
end Rows
end Go.Proofs.YtcmjneabcdpmoaaDoor

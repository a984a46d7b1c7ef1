/-
  Texts that stand together: PrecKind.
-/
import Derived.Test.YtigepihinflkdaaGreatDoorBGramKinds
namespace Go.Proofs.YtigepihinflkdaaGreatDoor.PrecKind
open Go.RowKit Go.Extern.Stop Go.Stop Go.Extern Go.Proofs.YtigepihinflkdaaGreatDoor.GramMath Go.Proofs.YtigepihinflkdaaGreatDoor.GramRow Go.Proofs.YtigepihinflkdaaGreatDoor.GramErrs
set_option linter.unusedVariables false

end Go.Proofs.YtigepihinflkdaaGreatDoor.PrecKind

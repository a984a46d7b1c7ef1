/-
  The statements' own look at the chapter's answers: it is always true.
-/
import Derived.Test.YtkbljcfkokiceaaDoorGramAwake
namespace Go.Proofs.YtkbljcfkokiceaaDoor.GramAwake
open Go.RowKit Go.Proofs.YtkbljcfkokiceaaDoor.GramMath Go.Proofs.YtkbljcfkokiceaaDoor.GramRow Go.Proofs.YtkbljcfkokiceaaDoor.GramOne Go.Proofs.YtkbljcfkokiceaaDoor.GramCheck Go.Proofs.YtkbljcfkokiceaaDoor.GramAboveFn
set_option linter.unusedVariables false

end Go.Proofs.YtkbljcfkokiceaaDoor.GramAwake

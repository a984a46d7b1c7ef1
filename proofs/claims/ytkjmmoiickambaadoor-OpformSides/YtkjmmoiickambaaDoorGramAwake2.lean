/-
  The statements' own look at the chapter's answers: it is always true.
-/
import Derived.Test.YtkjmmoiickambaaDoorGramAwake
namespace Go.Proofs.YtkjmmoiickambaaDoor.GramAwake
open Go.RowKit Go.Proofs.YtkjmmoiickambaaDoor.GramMath Go.Proofs.YtkjmmoiickambaaDoor.GramRow Go.Proofs.YtkjmmoiickambaaDoor.GramOne Go.Proofs.YtkjmmoiickambaaDoor.GramCheck Go.Proofs.YtkjmmoiickambaaDoor.GramAboveFn
set_option linter.unusedVariables false

end Go.Proofs.YtkjmmoiickambaaDoor.GramAwake

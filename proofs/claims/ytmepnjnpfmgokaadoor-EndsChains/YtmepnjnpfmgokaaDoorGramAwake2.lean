/-
  The statements' own look at the chapter's answers: it is always true.
-/
import Derived.Test.YtmepnjnpfmgokaaDoorGramAwake
namespace Go.Proofs.YtmepnjnpfmgokaaDoor.GramAwake
open Go.RowKit Go.Proofs.YtmepnjnpfmgokaaDoor.GramMath Go.Proofs.YtmepnjnpfmgokaaDoor.GramRow Go.Proofs.YtmepnjnpfmgokaaDoor.GramOne Go.Proofs.YtmepnjnpfmgokaaDoor.GramCheck Go.Proofs.YtmepnjnpfmgokaaDoor.GramAboveFn
set_option linter.unusedVariables false

end Go.Proofs.YtmepnjnpfmgokaaDoor.GramAwake

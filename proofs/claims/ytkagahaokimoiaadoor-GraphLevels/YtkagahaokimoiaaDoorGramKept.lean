/-
  Kept lists of rules; lent and kept grammars.
-/
import Derived.Test.YtkagahaokimoiaaDoorGramLentR
import Derived.Deep.DeepCutAuto
namespace Go.Proofs.YtkagahaokimoiaaDoor.GramLent
open Go.RowKit Go.Proofs.YtkagahaokimoiaaDoor.GramMath Go.Proofs.YtkagahaokimoiaaDoor.GramRow Go.Proofs.YtkagahaokimoiaaDoor.GramSame Go.Proofs.YtkagahaokimoiaaDoor.GramLess
set_option linter.unusedVariables false

end Go.Proofs.YtkagahaokimoiaaDoor.GramLent

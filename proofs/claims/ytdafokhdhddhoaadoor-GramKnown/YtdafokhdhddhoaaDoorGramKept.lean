/-
  Kept lists of rules; lent and kept grammars.
-/
import Derived.Test.YtdafokhdhddhoaaDoorGramLentR
import Derived.Deep.DeepCutAuto
namespace Go.Proofs.YtdafokhdhddhoaaDoor.GramLent
open Go.RowKit Go.Proofs.YtdafokhdhddhoaaDoor.GramMath Go.Proofs.YtdafokhdhddhoaaDoor.GramRow Go.Proofs.YtdafokhdhddhoaaDoor.GramSame Go.Proofs.YtdafokhdhddhoaaDoor.GramLess
set_option linter.unusedVariables false

end Go.Proofs.YtdafokhdhddhoaaDoor.GramLent

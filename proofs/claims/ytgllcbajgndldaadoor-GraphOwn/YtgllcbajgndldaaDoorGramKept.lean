/-
  Kept lists of rules; lent and kept grammars.
-/
import Derived.Test.YtgllcbajgndldaaDoorGramLentR
import Derived.Deep.DeepCutAuto
namespace Go.Proofs.YtgllcbajgndldaaDoor.GramLent
open Go.RowKit Go.Proofs.YtgllcbajgndldaaDoor.GramMath Go.Proofs.YtgllcbajgndldaaDoor.GramRow Go.Proofs.YtgllcbajgndldaaDoor.GramSame Go.Proofs.YtgllcbajgndldaaDoor.GramLess
set_option linter.unusedVariables false

end Go.Proofs.YtgllcbajgndldaaDoor.GramLent

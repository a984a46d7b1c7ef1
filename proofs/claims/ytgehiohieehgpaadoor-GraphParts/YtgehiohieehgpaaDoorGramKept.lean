/-
  Kept lists of rules; lent and kept grammars.
-/
import Derived.Test.YtgehiohieehgpaaDoorGramLentR
import Derived.Deep.DeepCutAuto
namespace Go.Proofs.YtgehiohieehgpaaDoor.GramLent
open Go.RowKit Go.Proofs.YtgehiohieehgpaaDoor.GramMath Go.Proofs.YtgehiohieehgpaaDoor.GramRow Go.Proofs.YtgehiohieehgpaaDoor.GramSame Go.Proofs.YtgehiohieehgpaaDoor.GramLess
set_option linter.unusedVariables false

end Go.Proofs.YtgehiohieehgpaaDoor.GramLent

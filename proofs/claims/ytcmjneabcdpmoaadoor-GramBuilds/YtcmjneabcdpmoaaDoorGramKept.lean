/-
  Kept lists of rules; lent and kept grammars.
-/
import Derived.Test.YtcmjneabcdpmoaaDoorGramLentR
import Derived.Deep.DeepCutAuto
namespace Go.Proofs.YtcmjneabcdpmoaaDoor.GramLent
open Go.RowKit Go.Proofs.YtcmjneabcdpmoaaDoor.GramMath Go.Proofs.YtcmjneabcdpmoaaDoor.GramRow Go.Proofs.YtcmjneabcdpmoaaDoor.GramSame Go.Proofs.YtcmjneabcdpmoaaDoor.GramLess
set_option linter.unusedVariables false

end Go.Proofs.YtcmjneabcdpmoaaDoor.GramLent

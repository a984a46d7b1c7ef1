/-
  The statements' own look at the chapter's answers: it is always true.
-/
import Derived.Test.YtjmodcpeggafhaaDoorGramAwake
namespace Go.Proofs.YtjmodcpeggafhaaDoor.GramAwake
open Go.RowKit Go.Proofs.YtjmodcpeggafhaaDoor.GramMath Go.Proofs.YtjmodcpeggafhaaDoor.GramRow Go.Proofs.YtjmodcpeggafhaaDoor.GramOne Go.Proofs.YtjmodcpeggafhaaDoor.GramCheck Go.Proofs.YtjmodcpeggafhaaDoor.GramAboveFn
set_option linter.unusedVariables false

end Go.Proofs.YtjmodcpeggafhaaDoor.GramAwake

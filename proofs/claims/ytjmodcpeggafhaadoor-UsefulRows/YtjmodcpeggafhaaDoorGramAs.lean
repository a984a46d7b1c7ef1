/-
  The place that an error tells: what errors.As comes to at an error with a place (after the guide's own worked example), and what kit.Place tells.
-/
import Derived.Test.YtjmodcpeggafhaaDoorGramIs
namespace Go.Proofs.YtjmodcpeggafhaaDoor.GramErrs
open Go.RowKit Go.Extern.Stop Go.Stop Go.Extern Go.Proofs.YtjmodcpeggafhaaDoor.GramMath Go.Proofs.YtjmodcpeggafhaaDoor.GramRow

end Go.Proofs.YtjmodcpeggafhaaDoor.GramErrs

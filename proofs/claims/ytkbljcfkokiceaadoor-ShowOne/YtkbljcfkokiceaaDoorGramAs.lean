/-
  The place that an error tells: what errors.As comes to at an error with a place (after the guide's own worked example), and what kit.Place tells.
-/
import Derived.Test.YtkbljcfkokiceaaDoorGramIs
namespace Go.Proofs.YtkbljcfkokiceaaDoor.GramErrs
open Go.RowKit Go.Extern.Stop Go.Stop Go.Extern Go.Proofs.YtkbljcfkokiceaaDoor.GramMath Go.Proofs.YtkbljcfkokiceaaDoor.GramRow

end Go.Proofs.YtkbljcfkokiceaaDoor.GramErrs

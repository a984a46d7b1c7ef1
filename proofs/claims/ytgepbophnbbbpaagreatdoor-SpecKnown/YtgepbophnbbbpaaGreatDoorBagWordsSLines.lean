/-
  Texts that stand together: WordsSLines, WordsWLines.
-/
import Derived.Test.YtgepbophnbbbpaaGreatDoorBagSpecLn1
import Derived.Test.YtgepbophnbbbpaaGreatDoorBagWordsMarks
import Derived.Test.YtgepbophnbbbpaaGreatDoorRangeOwn
import Derived.RangeFuncNested
import Derived.RangeFuncBound
import Derived.RangeFuncCalls
import Derived.RangeFuncLeaves
import Derived.RangeFuncBox
import Derived.Shelf.Abstract
import Derived.Shelf.RegionOpen
import Derived.OwnWalkIn
import Derived.TacticsInMore
import Derived.LoopNIn
import Derived.LoopIn
import Derived.BigRegionIn
import Derived.Maps.AppendAt
namespace Go.Proofs.YtgepbophnbbbpaaGreatDoor.WordsSLines
open Go.RowKit Go.Proofs.YtgepbophnbbbpaaGreatDoor.WordsMath Go.Proofs.YtgepbophnbbbpaaGreatDoor.WordsOne Go.Proofs.YtgepbophnbbbpaaGreatDoor.WordsBytes Go.Proofs.YtgepbophnbbbpaaGreatDoor.WordsCutM
set_option linter.unusedVariables false

/-- How long the text is that lies in a box. -/
def leftIn (b : Nat) (W : World) : Nat := match W.cell? ⟨b, 0, none⟩ with | some (.string s) => s.size | _ => 0

/-- The first line of a text with its end, and what is left. -/
def lineOf (l : List UInt8) : List UInt8 × List UInt8 := if 0 ≤ Lib.indexByte l 10 then (l.take ((Lib.indexByte l 10).toNat + 1), l.drop ((Lib.indexByte l 10).toNat + 1)) else (l, [])

end Go.Proofs.YtgepbophnbbbpaaGreatDoor.WordsSLines

namespace Go.Proofs.YtgepbophnbbbpaaGreatDoor.WordsSLines
open Go.RowKit Go.Proofs.YtgepbophnbbbpaaGreatDoor.WordsMath Go.Proofs.YtgepbophnbbbpaaGreatDoor.WordsOne Go.Proofs.YtgepbophnbbbpaaGreatDoor.WordsBytes Go.Proofs.YtgepbophnbbbpaaGreatDoor.WordsCutM
set_option linter.unusedVariables false

end Go.Proofs.YtgepbophnbbbpaaGreatDoor.WordsSLines

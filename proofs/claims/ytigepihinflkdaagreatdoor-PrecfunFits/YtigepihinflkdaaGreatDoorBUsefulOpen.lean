/-
  Texts that stand together: UsefulOpen.
-/
import Derived.Test.YtigepihinflkdaaGreatDoorBGramBase
import Derived.Test.YtigepihinflkdaaGreatDoorBagGramApart0
namespace Go.Proofs.YtigepihinflkdaaGreatDoor.UsefulTop
open Go.RowKit Go.Proofs.YtigepihinflkdaaGreatDoor.GramMath Go.Proofs.YtigepihinflkdaaGreatDoor.GramRow Go.Proofs.YtigepihinflkdaaGreatDoor.GramApart

theorem rowNew (w : World) (c : Array Value) (t : TypeId) : RowAt (w.alloc (.cells c t)) w.heap.size t c := heap_new _ _

end Go.Proofs.YtigepihinflkdaaGreatDoor.UsefulTop

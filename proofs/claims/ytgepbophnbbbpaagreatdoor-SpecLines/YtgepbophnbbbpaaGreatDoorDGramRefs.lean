/-
  Texts that stand together: GramRefs.
-/
import Derived.Test.YtgepbophnbbbpaaGreatDoorDagSpecTabs
import Derived.Test.YtgepbophnbbbpaaGreatDoorDGramBase
import Derived.Test.YtgepbophnbbbpaaGreatDoorDBaseMath
namespace Go.Proofs.YtgepbophnbbbpaaGreatDoor.GramRef
open Go.RowKit Go.Proofs.YtgepbophnbbbpaaGreatDoor.GramMath Go.Proofs.YtgepbophnbbbpaaGreatDoor.GramRow Go.Proofs.YtgepbophnbbbpaaGreatDoor.GramOne Go.Proofs.YtgepbophnbbbpaaGreatDoor.GramName
set_option linter.unusedVariables false

end Go.Proofs.YtgepbophnbbbpaaGreatDoor.GramRef

namespace Go.Proofs.YtgepbophnbbbpaaGreatDoor.GramRef
open Go.RowKit Go.Proofs.YtgepbophnbbbpaaGreatDoor.GramMath Go.Proofs.YtgepbophnbbbpaaGreatDoor.GramRow Go.Proofs.YtgepbophnbbbpaaGreatDoor.GramOne Go.Proofs.YtgepbophnbbbpaaGreatDoor.GramCheck
set_option linter.unusedVariables false

/-- The number of a rule, -1 for none. -/
def ruI : Option Nat → Int
  | none => -1
  | some i => (i : Int)

end Go.Proofs.YtgepbophnbbbpaaGreatDoor.GramRef

namespace Go.Proofs.YtgepbophnbbbpaaGreatDoor.GramRef
open Go.RowKit Go.Proofs.YtgepbophnbbbpaaGreatDoor.GramMath Go.Proofs.YtgepbophnbbbpaaGreatDoor.GramRow Go.Proofs.YtgepbophnbbbpaaGreatDoor.GramOne Go.Proofs.YtgepbophnbbbpaaGreatDoor.GramAboveFn Go.Proofs.YtgepbophnbbbpaaGreatDoor.GramApart
set_option linter.unusedVariables false

/-- Booleans in a row of their own. -/
def BRow (w : World) (b n : Nat) (S : Nat → Bool) : Prop := ∀ i, i < n → w.cell? ⟨b, i, none⟩ = some (.bool (S i)) ∧ w.frozen? ⟨b, i, none⟩ = false

theorem BRow.below {w w' : World} {b n B : Nat} {S : Nat → Bool} (h : BRow w b n S) (hb : Below B w w') (hB : b < B) : BRow w' b n S := fun i hi =>
  ⟨(hb.cell (p := ⟨b, i, none⟩) hB).trans (h i hi).1, (hb.frozen (p := ⟨b, i, none⟩) hB).trans (h i hi).2⟩

theorem BRow.set {w : World} {b n t : Nat} {S : Nat → Bool} (h : BRow w b n S) (ht : t < n) : BRow (w.setCell ⟨b, t, none⟩ (.bool true)) b n (updB S t) := fun i hi => by
  refine ⟨?_, by rw [World.frozen?_setCell]; exact (h i hi).2⟩
  by_cases e : i = t
  · subst e
    rw [updB_at]
    exact World.cell?_setCell_same (h := (h i hi).1) ..
  · rw [updB_ne _ e, World.cell?_setCell_other (h := show (⟨b, t, none⟩ : Addr) ≠ ⟨b, i, none⟩ from fun h => e (by cases h; rfl))]
    exact (h i hi).1

def numV (x : Nat) : Value := .int .i64 (x : Int)

end Go.Proofs.YtgepbophnbbbpaaGreatDoor.GramRef

/-
  Texts that stand together: GramOpens.
-/
import Derived.Test.YtgepbophnbbbpaaGreatDoorCGramBase
import Derived.SliceStrings
import Derived.Deep.Slices
import Derived.Lib.SmallJoins
import Derived.SizedLaws
import Derived.Test.YtgepbophnbbbpaaGreatDoorCagGramLent
namespace Go.Proofs.YtgepbophnbbbpaaGreatDoor.GramOpen
open Go.Deep Go.Joins Go.ChangeShapes Go.WideShapes Go.ChangeAt Go.RowKit Go.Proofs.YtgepbophnbbbpaaGreatDoor.GramMath Go.Proofs.YtgepbophnbbbpaaGreatDoor.GramRow
set_option linter.unusedVariables false

theorem cellsR : Tryz.prog.cellsOf 46 = 2 := by kernel_rfl
section
variable {H : Type} {enc : TypeId × Value → H} {W : World} {sp : Nat → Bool} {hd : Bool}

end
end Go.Proofs.YtgepbophnbbbpaaGreatDoor.GramOpen

namespace Go.Proofs.YtgepbophnbbbpaaGreatDoor.GramOpen
open Go.Deep Go.Joins Go.ChangeShapes Go.WideShapes Go.ChangeAt Go.RowKit Go.Proofs.YtgepbophnbbbpaaGreatDoor.GramMath Go.Proofs.YtgepbophnbbbpaaGreatDoor.GramRow
set_option linter.unusedVariables false

section
variable {H : Type} {enc : TypeId × Value → H} {W : World} {sp : Nat → Bool} {hd : Bool}

end
end Go.Proofs.YtgepbophnbbbpaaGreatDoor.GramOpen

namespace Go.Proofs.YtgepbophnbbbpaaGreatDoor.GramOpen
open Go.Deep Go.Joins Go.ChangeShapes Go.WideShapes Go.ChangeAt Go.RowKit Go.Proofs.YtgepbophnbbbpaaGreatDoor.GramMath Go.Proofs.YtgepbophnbbbpaaGreatDoor.GramRow
set_option linter.unusedVariables false

/-- No list of a row of rules has a cap that is less than its length. -/
def Caps (W : World) (ra : Option Addr) (m : Nat) : Prop := ∀ i, i < m → ∀ b off, ra = some ⟨b, off, none⟩ → ∀ qa n qc, W.cell? ⟨b, off + i * 2 + 1, none⟩ = some (.slice qa n qc) → n ≤ qc

section
variable {H : Type} {enc : TypeId × Value → H} {W : World} {sp : Nat → Bool} {hd : Bool}

end
end Go.Proofs.YtgepbophnbbbpaaGreatDoor.GramOpen

/-
  Texts that stand together: GramOpens.
-/
import Derived.Test.YtaieeclobokflaaDoorBGramBase
import Derived.SliceStrings
import Derived.Deep.Slices
import Derived.Lib.SmallJoins
import Derived.SizedLaws
import Derived.Test.YtaieeclobokflaaDoorBagGramLent
namespace Go.Proofs.YtaieeclobokflaaDoor.GramOpen
open Go.Deep Go.Joins Go.ChangeShapes Go.WideShapes Go.ChangeAt Go.RowKit Go.Proofs.YtaieeclobokflaaDoor.GramMath Go.Proofs.YtaieeclobokflaaDoor.GramRow
set_option linter.unusedVariables false

theorem cellsR : Tryd.prog.cellsOf 87 = 2 := by kernel_rfl
section
variable {H : Type} {enc : TypeId × Value → H} {W : World} {sp : Nat → Bool} {hd : Bool}

end
end Go.Proofs.YtaieeclobokflaaDoor.GramOpen

namespace Go.Proofs.YtaieeclobokflaaDoor.GramOpen
open Go.Deep Go.Joins Go.ChangeShapes Go.WideShapes Go.ChangeAt Go.RowKit Go.Proofs.YtaieeclobokflaaDoor.GramMath Go.Proofs.YtaieeclobokflaaDoor.GramRow
set_option linter.unusedVariables false

section
variable {H : Type} {enc : TypeId × Value → H} {W : World} {sp : Nat → Bool} {hd : Bool}

end
end Go.Proofs.YtaieeclobokflaaDoor.GramOpen

namespace Go.Proofs.YtaieeclobokflaaDoor.GramOpen
open Go.Deep Go.Joins Go.ChangeShapes Go.WideShapes Go.ChangeAt Go.RowKit Go.Proofs.YtaieeclobokflaaDoor.GramMath Go.Proofs.YtaieeclobokflaaDoor.GramRow
set_option linter.unusedVariables false

/-- No list of a row of rules has a cap that is less than its length. -/
def Caps (W : World) (ra : Option Addr) (m : Nat) : Prop := ∀ i, i < m → ∀ b off, ra = some ⟨b, off, none⟩ → ∀ qa n qc, W.cell? ⟨b, off + i * 2 + 1, none⟩ = some (.slice qa n qc) → n ≤ qc

section
variable {H : Type} {enc : TypeId × Value → H} {W : World} {sp : Nat → Bool} {hd : Bool}

end
end Go.Proofs.YtaieeclobokflaaDoor.GramOpen

/-
  Texts that stand together: GramOpens, SpecTabs.
-/
import Derived.Test.YtgepbophnbbbpaaGreatDoorBagGramBase
import Derived.SliceStrings
import Derived.Deep.Slices
import Derived.Lib.SmallJoins
import Derived.SizedLaws
import Derived.Test.YtgepbophnbbbpaaGreatDoorBagGramKept
import Derived.LaidSub
namespace Go.Proofs.YtgepbophnbbbpaaGreatDoor.GramOpen
open Go.Deep Go.Joins Go.ChangeShapes Go.WideShapes Go.ChangeAt Go.RowKit Go.Proofs.YtgepbophnbbbpaaGreatDoor.GramMath Go.Proofs.YtgepbophnbbbpaaGreatDoor.GramRow
set_option linter.unusedVariables false

theorem cellsR : Tryz.prog.cellsOf 46 = 2 := by kernel_rfl
section
variable {H : Type} {enc : TypeId × Value → H} {W : World} {sp : Nat → Bool} {hd : Bool}

end
end Go.Proofs.YtgepbophnbbbpaaGreatDoor.GramOpen

namespace Go.Proofs.YtgepbophnbbbpaaGreatDoor.GramOpen
open Go.Deep Go.Joins Go.ChangeShapes Go.WideShapes Go.ChangeAt Go.RowKit Go.Proofs.YtgepbophnbbbpaaGreatDoor.GramMath Go.Proofs.YtgepbophnbbbpaaGreatDoor.GramRow
set_option linter.unusedVariables false

section
variable {H : Type} {enc : TypeId × Value → H} {W : World} {sp : Nat → Bool} {hd : Bool}

end
end Go.Proofs.YtgepbophnbbbpaaGreatDoor.GramOpen

namespace Go.Proofs.YtgepbophnbbbpaaGreatDoor.GramOpen
open Go.Deep Go.Joins Go.ChangeShapes Go.WideShapes Go.ChangeAt Go.RowKit Go.Proofs.YtgepbophnbbbpaaGreatDoor.GramMath Go.Proofs.YtgepbophnbbbpaaGreatDoor.GramRow
set_option linter.unusedVariables false

/-- No list of a row of rules has a cap that is less than its length. -/
def Caps (W : World) (ra : Option Addr) (m : Nat) : Prop := ∀ i, i < m → ∀ b off, ra = some ⟨b, off, none⟩ → ∀ qa n qc, W.cell? ⟨b, off + i * 2 + 1, none⟩ = some (.slice qa n qc) → n ≤ qc

section
variable {H : Type} {enc : TypeId × Value → H} {W : World} {sp : Nat → Bool} {hd : Bool}

end
end Go.Proofs.YtgepbophnbbbpaaGreatDoor.GramOpen

namespace Go.Proofs.YtgepbophnbbbpaaGreatDoor.SpecTabs
open Go.RowKit Go.Proofs.YtgepbophnbbbpaaGreatDoor.GramErrs Go.Proofs.YtgepbophnbbbpaaGreatDoor.GramRow
set_option linter.unusedVariables false

def keepE (x : String × DataW Unit) : Bool := !decide (x.1 = "unicode/utf8.acceptRanges") && !decide (x.1 = "unicode/utf8.first")
def utfLaid : List (String × DataW Unit) := ("unicode/utf8.acceptRanges", Rows.laid_unicode_utf8_acceptRanges) :: (errLaid ++ [("unicode/utf8.first", Rows.laid_unicode_utf8_first)])

theorem errs_laid {W : World} (h : laidMetH Tryz.prog utfLaid W) : laidMetH Tryz.prog errLaid W := by
  have h2 := laidMetH.filter keepE h
  have e : utfLaid.filter keepE = errLaid := by kernel_rfl
  rw [e] at h2
  exact h2

def valsAr : List Int := [128, 191, 160, 191, 128, 159, 144, 191, 128, 143, 0, 0, 0, 0, 0, 0, 0, 0, 0, 0, 0, 0, 0, 0, 0, 0, 0, 0, 0, 0, 0, 0]
def layAr : Obj → Obj
  | .cells _ t frozen => .cells (valsAr.map (fun z => Value.int .u8 z)).toArray t frozen
  | o => o
def layFi : Obj → Obj
  | .cells _ t frozen => .cells (Go.Pinned.utf8FirstZ.map (fun (z : Nat) => Value.int .u8 (Int.ofNat z))).toArray t frozen
  | o => o

noncomputable def laidWorldU (os : Os) : World := { laidWorld os with heap := ((laidWorld os).heap.modify 17 layAr).modify 16 layFi }

end Go.Proofs.YtgepbophnbbbpaaGreatDoor.SpecTabs

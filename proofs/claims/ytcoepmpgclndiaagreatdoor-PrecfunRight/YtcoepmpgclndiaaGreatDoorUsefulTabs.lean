/-
  Rows that list the table of math/bits ahead of the errors: what they give, and a world that holds all of it.
-/
import Derived.Test.YtcoepmpgclndiaaGreatDoorGramErrs
import Derived.Test.YtcoepmpgclndiaaGreatDoorSetsFns
import Derived.Lib.LaidTab
import Derived.LaidSub
namespace Go.Proofs.YtcoepmpgclndiaaGreatDoor.UsefulTabs
open Go.RowKit Go.Proofs.YtcoepmpgclndiaaGreatDoor.SetsAlg Go.Proofs.YtcoepmpgclndiaaGreatDoor.GramErrs Go.Proofs.YtcoepmpgclndiaaGreatDoor.GramRow
set_option linter.unusedVariables false

theorem gTz : Tryz.prog.globalNamed "math/bits.deBruijn64tab" = some 16 := by kernel_rfl
theorem gtTz : (Tryz.prog.globals[16]?).map (·.type) = some 180 := by kernel_rfl
theorem gcTz : Tryz.prog.cellsOf 180 = 64 := by kernel_rfl
def valsTz : List Int := [0, 1, 56, 2, 57, 49, 28, 3, 61, 58, 42, 50, 38, 29, 17, 4, 62, 47, 59, 36, 45, 43, 51, 22, 53, 39, 33, 30, 24, 18, 12, 5, 63, 55, 48, 27, 60, 41, 37, 16, 46, 35, 44, 21, 52, 32, 23, 11, 54, 26, 40, 15, 34, 20, 31, 10, 25, 14, 19, 9, 13, 8, 7, 6]

def tabLaid : List (String × DataW Unit) := ("math/bits.deBruijn64tab", Rows.laid_math_bits_deBruijn64tab) :: errLaid

theorem errs_laid {W : World} (h : laidMetH Tryz.prog tabLaid W) : laidMetH Tryz.prog errLaid W := by
  have h2 := laidMetH.filter (fun x => !decide (x.1 = "math/bits.deBruijn64tab")) h
  have e : tabLaid.filter (fun x => !decide (x.1 = "math/bits.deBruijn64tab")) = errLaid := by kernel_rfl
  rw [e] at h2
  exact h2

theorem tableTz {W : World} (h : laidMetH Tryz.prog tabLaid W) : Lib.TabIs Tryz.prog W "math/bits.deBruijn64tab" .u8 valsTz := by
  have h2 := laidMetH.filter (fun x => decide (x.1 = "math/bits.deBruijn64tab")) h
  have e : tabLaid.filter (fun x => decide (x.1 = "math/bits.deBruijn64tab")) = [("math/bits.deBruijn64tab", Lib.tabData .u8 valsTz)] := by kernel_rfl
  rw [e] at h2
  exact Lib.tabIs_of_head (rest := []) gTz gtTz Tryz.underlying180 Tryz.underlying5 (by kernel_rfl) gcTz h2

theorem tab_laid {W : World} (h : laidMetH Tryz.prog tabLaid W) : Tab W ∧ 16 < W.heap.size := by
  have hc : ∀ i, i < valsTz.length → W.cell? ⟨16, i, none⟩ = some (.int .u8 (valsTz.getD i 0)) := fun i hi => (tableTz h).cell gTz i hi
  refine ⟨fun j hj => ?_, cell_lt (hc 0 (by decide))⟩
  have e : ∀ j, j < 64 → valsTz.getD j 0 = ((Lib.deBruijn64tab.getD j 0 : Nat) : Int) := by decide +kernel
  rw [hc j hj, e j hj]

def layTz : Obj → Obj
  | .cells _ t frozen => .cells (valsTz.map (fun z => Value.int .u8 z)).toArray t frozen
  | o => o

noncomputable def laidWorldT (os : Os) : World := { laidWorld os with heap := (laidWorld os).heap.modify 16 layTz }

end Go.Proofs.YtcoepmpgclndiaaGreatDoor.UsefulTabs

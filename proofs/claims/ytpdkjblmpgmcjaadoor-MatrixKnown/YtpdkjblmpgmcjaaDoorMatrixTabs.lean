/-
  Rows that list the table of math/bits ahead of three errors, or of fifteen without the handle.
-/
import Derived.Test.YtpdkjblmpgmcjaaDoorUsefulTabs
import Derived.Test.YtpdkjblmpgmcjaaDoorGramErrs15
namespace Go.Proofs.YtpdkjblmpgmcjaaDoor.MatrixTabs
open Go.RowKit Go.Proofs.YtpdkjblmpgmcjaaDoor.SetsAlg Go.Proofs.YtpdkjblmpgmcjaaDoor.GramErrs Go.Proofs.YtpdkjblmpgmcjaaDoor.GramErrs15 Go.Proofs.YtpdkjblmpgmcjaaDoor.GramRow Go.Proofs.YtpdkjblmpgmcjaaDoor.UsefulTabs
set_option linter.unusedVariables false

def tab3 : List (String × DataW Unit) := ("math/bits.deBruijn64tab", Rows.laid_math_bits_deBruijn64tab) :: errLaid3
def tab15 : List (String × DataW Unit) := ("math/bits.deBruijn64tab", Rows.laid_math_bits_deBruijn64tab) :: laid15

theorem tab_one {W : World} (h : laidMetH Tryd.prog [("math/bits.deBruijn64tab", Lib.tabData .u8 valsTz)] W) : Tab W ∧ 16 < W.heap.size := by
  have ht : Lib.TabIs Tryd.prog W "math/bits.deBruijn64tab" .u8 valsTz := Lib.tabIs_of_head (rest := []) gTz gtTz Tryd.underlying187 Tryd.underlying5 (by kernel_rfl) gcTz h
  have hc : ∀ i, i < valsTz.length → W.cell? ⟨16, i, none⟩ = some (.int .u8 (valsTz.getD i 0)) := fun i hi => ht.cell gTz i hi
  refine ⟨fun j hj => ?_, cell_lt (hc 0 (by decide))⟩
  have e : ∀ j, j < 64 → valsTz.getD j 0 = ((Lib.deBruijn64tab.getD j 0 : Nat) : Int) := by decide +kernel
  rw [hc j hj, e j hj]

theorem errs3_laid {W : World} (h : laidMetH Tryd.prog tab3 W) : laidMetH Tryd.prog errLaid3 W := by
  have h2 := laidMetH.filter (fun x => !decide (x.1 = "math/bits.deBruijn64tab")) h
  have e : tab3.filter (fun x => !decide (x.1 = "math/bits.deBruijn64tab")) = errLaid3 := by kernel_rfl
  rw [e] at h2
  exact h2
theorem tab3_laid {W : World} (h : laidMetH Tryd.prog tab3 W) : Tab W ∧ 16 < W.heap.size := by
  have h2 := laidMetH.filter (fun x => decide (x.1 = "math/bits.deBruijn64tab")) h
  have e : tab3.filter (fun x => decide (x.1 = "math/bits.deBruijn64tab")) = [("math/bits.deBruijn64tab", Lib.tabData .u8 valsTz)] := by kernel_rfl
  rw [e] at h2
  exact tab_one h2
theorem errs15_laid {W : World} (h : laidMetH Tryd.prog tab15 W) : laidMetH Tryd.prog laid15 W := by
  have h2 := laidMetH.filter (fun x => !decide (x.1 = "math/bits.deBruijn64tab")) h
  have e : tab15.filter (fun x => !decide (x.1 = "math/bits.deBruijn64tab")) = laid15 := by kernel_rfl
  rw [e] at h2
  exact h2
theorem tab15_laid {W : World} (h : laidMetH Tryd.prog tab15 W) : Tab W ∧ 16 < W.heap.size := by
  have h2 := laidMetH.filter (fun x => decide (x.1 = "math/bits.deBruijn64tab")) h
  have e : tab15.filter (fun x => decide (x.1 = "math/bits.deBruijn64tab")) = [("math/bits.deBruijn64tab", Lib.tabData .u8 valsTz)] := by kernel_rfl
  rw [e] at h2
  exact tab_one h2

end Go.Proofs.YtpdkjblmpgmcjaaDoor.MatrixTabs

/-
  The document's own answers: where a name is, the name of a symbol, renamings.
-/
import Derived.Test.YtffdnpjkcchmnaaDoorGramName
namespace Go.Proofs.YtffdnpjkcchmnaaDoor.GramRef
open Go.RowKit Go.Proofs.YtffdnpjkcchmnaaDoor.GramMath Go.Proofs.YtffdnpjkcchmnaaDoor.GramRow Go.Proofs.YtffdnpjkcchmnaaDoor.GramOne Go.Proofs.YtffdnpjkcchmnaaDoor.GramName
set_option linter.unusedVariables false

theorem idxN_hit {ss : List ByteArray} {s : ByteArray} {k : Nat} (h : idx ss s = (k : Int)) : idxN ss s = (k : Int) ∧ idxB ss s = true := by
  unfold idxN idxB
  rw [h]
  exact ⟨if_neg (by omega), by simp⟩
theorem idxN_miss {ss : List ByteArray} {s : ByteArray} (h : idx ss s = -1) : idxN ss s = 0 ∧ idxB ss s = false := by
  unfold idxN idxB
  rw [h]
  exact ⟨rfl, rfl⟩

end Go.Proofs.YtffdnpjkcchmnaaDoor.GramRef

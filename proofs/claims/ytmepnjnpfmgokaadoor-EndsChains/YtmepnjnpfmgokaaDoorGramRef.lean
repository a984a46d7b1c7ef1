/-
  The document's own answers: where a name is, the name of a symbol, renamings.
-/
import Derived.Test.YtmepnjnpfmgokaaDoorGramName
namespace Go.Proofs.YtmepnjnpfmgokaaDoor.GramRef
open Go.RowKit Go.Proofs.YtmepnjnpfmgokaaDoor.GramMath Go.Proofs.YtmepnjnpfmgokaaDoor.GramRow Go.Proofs.YtmepnjnpfmgokaaDoor.GramOne Go.Proofs.YtmepnjnpfmgokaaDoor.GramName
set_option linter.unusedVariables false

theorem idxN_hit {ss : List ByteArray} {s : ByteArray} {k : Nat} (h : idx ss s = (k : Int)) : idxN ss s = (k : Int) ∧ idxB ss s = true := by
  unfold idxN idxB
  rw [h]
  exact ⟨if_neg (by omega), by simp⟩
theorem idxN_miss {ss : List ByteArray} {s : ByteArray} (h : idx ss s = -1) : idxN ss s = 0 ∧ idxB ss s = false := by
  unfold idxN idxB
  rw [h]
  exact ⟨rfl, rfl⟩

end Go.Proofs.YtmepnjnpfmgokaaDoor.GramRef

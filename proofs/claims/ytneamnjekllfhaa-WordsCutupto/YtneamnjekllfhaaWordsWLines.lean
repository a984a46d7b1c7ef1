/-
  The program's sequence of lines, as a caller of the library's.
-/
import Derived.Test.YtneamnjekllfhaaWordsSLines
namespace Go.Proofs.Ytneamnjekllfhaa.WordsSLines
open Go.RowKit Go.Proofs.Ytneamnjekllfhaa.WordsMath Go.Proofs.Ytneamnjekllfhaa.WordsOne Go.Proofs.Ytneamnjekllfhaa.WordsBytes Go.Proofs.Ytneamnjekllfhaa.WordsCutM
set_option linter.unusedVariables false

theorem slines_any (s : ByteArray) (w : World) : Calls Try.prog 7 #[.string s] w fun e w' => e = .returned (.func (.func 10) #[] #[.pointer (some ⟨w.heap.size, 0, none⟩)]) ∧ w' = w.alloc (.cells #[.string s] 9) := by
  have hmf : ∀ (fn : Fn) (first cap : Array Value) (w : World), (Instr.makeFunc fn first cap).run Try.prog w = .ok (.func fn first cap) w := fun _ _ _ _ => rfl
  go_enter Try.func7, Try.ntmps7
  go_wp2
  go_ret
  exact ⟨rfl, rfl⟩

theorem wlines_any (s : ByteArray) (w : World) : Calls Try.prog 4 #[.string s] w fun e w' => e = .returned (.func (.func 6) #[] #[.pointer (some ⟨w.heap.size, 0, none⟩)]) ∧ w' = w.alloc (.cells #[.string s] 9) := by
  have hmf : ∀ (fn : Fn) (first cap : Array Value) (w : World), (Instr.makeFunc fn first cap).run Try.prog w = .ok (.func fn first cap) w := fun _ _ _ _ => rfl
  go_enter Try.func4, Try.ntmps4
  go_wp2
  go_ret
  exact ⟨rfl, rfl⟩

end Go.Proofs.Ytneamnjekllfhaa.WordsSLines

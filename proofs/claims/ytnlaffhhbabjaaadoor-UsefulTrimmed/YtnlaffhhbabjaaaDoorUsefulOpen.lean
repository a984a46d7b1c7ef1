/-
  Small facts for the walks of stage 7's statements.
-/
import Derived.Test.YtnlaffhhbabjaaaDoorGramBase
import Derived.Test.YtnlaffhhbabjaaaDoorGramApart0
namespace Go.Proofs.YtnlaffhhbabjaaaDoor.UsefulTop
open Go.RowKit Go.Proofs.YtnlaffhhbabjaaaDoor.GramMath Go.Proofs.YtnlaffhhbabjaaaDoor.GramRow Go.Proofs.YtnlaffhhbabjaaaDoor.GramApart

theorem rowNew (w : World) (c : Array Value) (t : TypeId) : RowAt (w.alloc (.cells c t)) w.heap.size t c := heap_new _ _

theorem ruleK_le (t n : Nat) (r : R) : ruleK t n r ≤ 15 := by
  rcases ruleK_cases t n r with h | h | h <;> omega
theorem rulesK_le (t n : Nat) : ∀ (rs : List R) (i : Nat), (rulesK t n rs i).1 ≤ 15
  | [], _ => by simp [rulesK]
  | r :: l, i => by
    unfold rulesK
    split
    · exact rulesK_le t n l (i + 1)
    · exact ruleK_le t n r
theorem check_le (g : G) : (checkG g).1 ≤ 15 := by
  unfold checkG
  split
  · decide
  · split
    · decide
    · split
      · decide
      · exact rulesK_le _ _ _ _

end Go.Proofs.YtnlaffhhbabjaaaDoor.UsefulTop

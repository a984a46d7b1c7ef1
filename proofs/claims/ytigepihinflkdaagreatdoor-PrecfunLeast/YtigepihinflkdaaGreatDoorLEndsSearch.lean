/-
  Texts that stand together: EndsSearch.
-/
import Derived.Test.YtigepihinflkdaaGreatDoorLEndsConcats
import Derived.Deep.AppendLies
namespace Go.Proofs.YtigepihinflkdaaGreatDoor.EndsSearch
open Go.RowKit Go.Proofs.YtigepihinflkdaaGreatDoor.GramMath Go.Proofs.YtigepihinflkdaaGreatDoor.GramRow Go.Proofs.YtigepihinflkdaaGreatDoor.EndsMath Go.Proofs.YtigepihinflkdaaGreatDoor.EndsConcat Go.Proofs.YtigepihinflkdaaGreatDoor.EndsFn Go.Proofs.YtigepihinflkdaaGreatDoor.EndsWays Go.Proofs.YtigepihinflkdaaGreatDoor.GramApart Go.Proofs.YtigepihinflkdaaGreatDoor.GramAboveFn
set_option linter.unusedVariables false

/-- What search answers. -/
def ChV (base : Nat) (w : World) (v : Value) : Option (List Int) → Prop
  | none => v = .slice none 0 0
  | some c => ∃ g cap, v = .slice (some ⟨g, 0, none⟩) c.length cap ∧ w.ownsRow base 3 1 (.slice (some ⟨g, 0, none⟩) c.length cap) c.length (intsL c)

theorem take_len {α : Type} {l : List α} {k : Nat} {r : α} (h : l[k]? = some r) : (l.take k).length = k := by
  obtain ⟨hk, _⟩ := List.getElem?_eq_some_iff.1 h
  simp
  omega

end Go.Proofs.YtigepihinflkdaaGreatDoor.EndsSearch

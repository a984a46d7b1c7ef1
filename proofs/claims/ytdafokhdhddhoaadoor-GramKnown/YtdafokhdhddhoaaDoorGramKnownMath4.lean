/-
  Rules that were just made, all of them empty.
-/
import Derived.Test.YtdafokhdhddhoaaDoorGramKnownMath3
namespace Go.Proofs.YtdafokhdhddhoaaDoor.GramKnown
open Go.RowKit Go.Proofs.YtdafokhdhddhoaaDoor.GramMath Go.Proofs.YtdafokhdhddhoaaDoor.GramRow Go.Proofs.YtdafokhdhddhoaaDoor.GramOne Go.Proofs.YtdafokhdhddhoaaDoor.GramApart Go.Proofs.YtdafokhdhddhoaaDoor.GramErrs Go.Proofs.YtdafokhdhddhoaaDoor.GramLent Go.Proofs.YtdafokhdhddhoaaDoor.GramAwake Go.Proofs.YtdafokhdhddhoaaDoor.GramLess Go.Proofs.YtdafokhdhddhoaaDoor.GramCopy
set_option linter.unusedVariables false

theorem made_two (n i : Nat) (hi : i < n) : (madeCells #[Value.int .i64 0, .slice none 0 0] (n * 2))[i * 2]? = some (.int .i64 0) ∧ (madeCells #[Value.int .i64 0, .slice none 0 0] (n * 2))[i * 2 + 1]? = some (.slice none 0 0) := by
  have h1 : i * 2 < n * 2 := by omega
  have h2 : i * 2 + 1 < n * 2 := by omega
  have e1 : i * 2 % 2 = 0 := by omega
  have e2 : (i * 2 + 1) % 2 = 1 := by omega
  constructor
  · simp [madeCells, h1]
  · simp [madeCells, h2, e2]

theorem made_rules {W : World} {b n : Nat} (h : RowAt W b 52 (madeCells #[.int .i64 0, .slice none 0 0] (n * 2))) : RRow W (some ⟨b, 0, none⟩) (List.replicate n ⟨0, []⟩) := fun i r hr => by
  have hi := (List.getElem?_eq_some_iff.1 hr).1
  rw [List.length_replicate] at hi
  have hr2 : r = ⟨0, []⟩ := by
    rw [List.getElem?_replicate, if_pos hi] at hr
    exact (Option.some.inj hr).symm
  subst hr2
  obtain ⟨h1, h2⟩ := made_two n i hi
  refine ⟨b, 0, none, 0, rfl, by rw [Nat.zero_add]; exact h.cell h1, by rw [Nat.zero_add]; exact h.cell h2, fun j x hx => by cases hx⟩

end Go.Proofs.YtdafokhdhddhoaaDoor.GramKnown

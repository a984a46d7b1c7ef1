/-
  Texts that stand together: WordsMarks, WordsRLines.
-/
import Derived.RangeFuncLeaves
import Derived.RangeFuncBox
import Derived.RangeFuncNested
import Derived.RangeFuncBound
import Derived.OwnWalkIn
import Derived.Below
import Derived.Test.YtgepbophnbbbpaaGreatDoorBagLineMath
namespace Go.Proofs.YtgepbophnbbbpaaGreatDoor.WordsMarks
open Go.RowKit
set_option linter.unusedVariables false

/-- The marks that loops over sequences leave. -/
def marks (Ds : List Nat) : List Deferred := Ds.map (fun D => { target := .collected D, args := #[] })
def OpenAt (w : World) (B : Nat) (Ds : List Nat) : Prop := Ds.Nodup ∧ ∀ D ∈ Ds, B ≤ D ∧ w.heap[D]? = some (.deferred (some []))

theorem OpenAt.below {w w' : World} {B C : Nat} {Ds : List Nat} (h : OpenAt w B Ds) (hb : Below C w w') (hC : w.heap.size ≤ C) : OpenAt w' B Ds :=
  ⟨h.1, fun D hD => ⟨(h.2 D hD).1, (hb.block D (Nat.lt_of_lt_of_le (Array.getElem?_eq_some_iff.1 (h.2 D hD).2).1 hC)).trans (h.2 D hD).2⟩⟩
theorem OpenAt.add {w : World} {B D : Nat} {Ds : List Nat} (h : OpenAt w B Ds) (hB : B ≤ D) (hD : w.heap[D]? = some (.deferred (some []))) (hn : D ∉ Ds) : OpenAt w B (D :: Ds) :=
  ⟨List.nodup_cons.2 ⟨hn, h.1⟩, fun x hx => by
    rcases List.mem_cons.1 hx with rfl | hx
    · exact ⟨hB, hD⟩
    · exact h.2 x hx⟩

end Go.Proofs.YtgepbophnbbbpaaGreatDoor.WordsMarks

namespace Go.Proofs.YtgepbophnbbbpaaGreatDoor.WordsCutM
open Go.RowKit Go.Proofs.YtgepbophnbbbpaaGreatDoor.WordsMath Go.Proofs.YtgepbophnbbbpaaGreatDoor.WordsOne Go.Proofs.YtgepbophnbbbpaaGreatDoor.WordsBytes

theorem piece (s : ByteArray) (f k : Nat) : s.extract f k = ⟨((s.data.toList.drop f).take (k - f)).toArray⟩ := by
  rw [← Lib.extract_data]

end Go.Proofs.YtgepbophnbbbpaaGreatDoor.WordsCutM

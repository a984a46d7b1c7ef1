/-
  Texts that stand together: WordsWLines, WordsMarks.
-/
import Derived.Test.YtbnajikkogdelaaDoorEWordsSLines
import Derived.RangeFuncLeaves
import Derived.RangeFuncBox
import Derived.RangeFuncNested
import Derived.RangeFuncBound
import Derived.OwnWalkIn
import Derived.Below
namespace Go.Proofs.YtbnajikkogdelaaDoor.WordsSLines
open Go.RowKit Go.Proofs.YtbnajikkogdelaaDoor.WordsMath Go.Proofs.YtbnajikkogdelaaDoor.WordsOne Go.Proofs.YtbnajikkogdelaaDoor.WordsBytes Go.Proofs.YtbnajikkogdelaaDoor.WordsCutM
set_option linter.unusedVariables false

theorem slines_any (s : ByteArray) (w : World) : Calls Tryd.prog 64 #[.string s] w fun e w' => e = .returned (.func (.func 76) #[] #[.pointer (some ⟨w.heap.size, 0, none⟩)]) ∧ w' = w.alloc (.cells #[.string s] 9) := by
  have hmf : ∀ (fn : Fn) (first cap : Array Value) (w : World), (Instr.makeFunc fn first cap).run Tryd.prog w = .ok (.func fn first cap) w := fun _ _ _ _ => rfl
  go_enter Tryd.func64, Tryd.ntmps64
  go_wp2
  go_ret
  exact ⟨rfl, rfl⟩

theorem wlines_any (s : ByteArray) (w : World) : Calls Tryd.prog 42 #[.string s] w fun e w' => e = .returned (.func (.func 63) #[] #[.pointer (some ⟨w.heap.size, 0, none⟩)]) ∧ w' = w.alloc (.cells #[.string s] 9) := by
  have hmf : ∀ (fn : Fn) (first cap : Array Value) (w : World), (Instr.makeFunc fn first cap).run Tryd.prog w = .ok (.func fn first cap) w := fun _ _ _ _ => rfl
  go_enter Tryd.func42, Tryd.ntmps42
  go_wp2
  go_ret
  exact ⟨rfl, rfl⟩

end Go.Proofs.YtbnajikkogdelaaDoor.WordsSLines

namespace Go.Proofs.YtbnajikkogdelaaDoor.WordsMarks
open Go.RowKit
set_option linter.unusedVariables false

/-- The marks that loops over sequences leave. -/
def marks (Ds : List Nat) : List Deferred := Ds.map (fun D => { target := .collected D, args := #[] })
def OpenAt (w : World) (B : Nat) (Ds : List Nat) : Prop := Ds.Nodup ∧ ∀ D ∈ Ds, B ≤ D ∧ w.heap[D]? = some (.deferred (some []))

theorem OpenAt.below {w w' : World} {B C : Nat} {Ds : List Nat} (h : OpenAt w B Ds) (hb : Below C w w') (hC : w.heap.size ≤ C) : OpenAt w' B Ds :=
  ⟨h.1, fun D hD => ⟨(h.2 D hD).1, (hb.block D (Nat.lt_of_lt_of_le (Array.getElem?_eq_some_iff.1 (h.2 D hD).2).1 hC)).trans (h.2 D hD).2⟩⟩
theorem OpenAt.add {w : World} {B D : Nat} {Ds : List Nat} (h : OpenAt w B Ds) (hB : B ≤ D) (hD : w.heap[D]? = some (.deferred (some []))) (hn : D ∉ Ds) : OpenAt w B (D :: Ds) :=
  ⟨List.nodup_cons.2 ⟨hn, h.1⟩, fun x hx => by
    rcases List.mem_cons.1 hx with rfl | hx
    · exact ⟨hB, hD⟩
    · exact h.2 x hx⟩

end Go.Proofs.YtbnajikkogdelaaDoor.WordsMarks

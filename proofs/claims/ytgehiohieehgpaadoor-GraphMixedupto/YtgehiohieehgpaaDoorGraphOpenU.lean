/-
  How many edges are handed in at most.
-/
import Derived.Test.YtgehiohieehgpaaDoorGraphOpen
import Derived.Test.YtgehiohieehgpaaDoorGramOpenU
namespace Go.Proofs.YtgehiohieehgpaaDoor.GraphOpen
open Go.Deep Go.Joins Go.ChangeShapes Go.WideShapes Go.ChangeAt Go.RowKit Go.Proofs.YtgehiohieehgpaaDoor.GramMath Go.Proofs.YtgehiohieehgpaaDoor.GramRow Go.Proofs.YtgehiohieehgpaaDoor.GramOpen Go.Proofs.YtgehiohieehgpaaDoor.GraphNet
set_option linter.unusedVariables false

theorem es_bulk {H : Type} {enc : TypeId × Value → H} {W : World} {sp : Nat → Bool} {hd : Bool} {n l c : Nat} {a : Option Addr} {y : DataW H × List MemPlace} (h : DataW.trod enc Tryd.prog W 0 sp hd n 22 [.slice a l c] = some y) : l ≤ Rows.uptoBulk y.1 := by
  rcases open_slice Tryd.underlying22 h with ⟨hcs, _⟩ | ⟨x, l', c', m, n', D, Pl, hcs, _, hl, hm, hmm, rfl, hall⟩
  · have e : Value.slice a l c = .slice none 0 0 := by simpa using hcs
    cases e
    exact Nat.zero_le _
  · have e : Value.slice a l c = .slice (some x) l' c' := by simpa using hcs
    cases e
    have h1 := bulk_len ((List.range l).map D)
    rw [List.length_map, List.length_range] at h1
    show _ ≤ Rows.uptoBulkAll ((List.range l).map D) + Rows.uptoBulkAll _ + 1
    omega

end Go.Proofs.YtgehiohieehgpaaDoor.GraphOpen

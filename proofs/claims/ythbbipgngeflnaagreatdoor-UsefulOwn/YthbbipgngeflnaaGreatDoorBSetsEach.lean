/-
  Texts that stand together: SetsEach.
-/
import Derived.Test.YthbbipgngeflnaaGreatDoorBSetsFns
import Derived.RangeFuncNested
import Derived.RangeFuncBound
import Derived.RangeFuncCalls
import Derived.RangeFuncLeaves
import Derived.RangeFuncBox
import Derived.Shelf.Abstract
import Derived.Shelf.RegionOpen
import Derived.OwnWalkIn
import Derived.TacticsInMore
import Derived.LoopNIn
import Derived.LoopIn
import Derived.Maps.AppendAt
namespace Go.Proofs.YthbbipgngeflnaaGreatDoor.SetsEach
open Go.RowKit Go.Shelf Go.Proofs.YthbbipgngeflnaaGreatDoor.SetsMath Go.Proofs.YthbbipgngeflnaaGreatDoor.SetsOne Go.Proofs.YthbbipgngeflnaaGreatDoor.SetsMany Go.Proofs.YthbbipgngeflnaaGreatDoor.SetsAlg
attribute [local go_sem] Oper.semAt_some

theorem Tab.from {n : Nat} {w w' : World} (h : Tab w) (hb : Below n w w') (hn : 15 < n) : Tab w' := fun j hj =>
  (hb.cell (p := ⟨15, j, none⟩) hn).trans (h j hj)

/-- A number that a set can hold. -/
abbrev Num := { x : Int // 0 ≤ x ∧ x < 64 }

theorem numsI_all {s z : Int} (h : z ∈ numsI s 64) : 0 ≤ z ∧ z < 64 := by
  unfold numsI numsN at h
  obtain ⟨n, hn, rfl⟩ := List.mem_map.1 h
  have h1 := List.mem_range.1 (List.mem_filter.1 hn).1
  omega

/-- A set's numbers, each with its bounds. -/
def numsS (s : Int) : List Num := (numsI s 64).pmap (fun x h => ⟨x, h⟩) (fun _ h => numsI_all h)

set_option maxHeartbeats 1000000 in
theorem each_any (s : Int) (w : World) :
    Calls Tryz.prog 57 #[.int .u64 s] w fun e w' => e = .returned (.func (.func 77) #[] #[.pointer (some ⟨w.heap.size, 0, none⟩)]) ∧ w' = w.alloc (.cells #[.int .u64 s] 47) := by
  go_enter Tryz.func57, Tryz.ntmps57
  go_wp2
  go_ret
  exact ⟨rfl, rfl⟩

end Go.Proofs.YthbbipgngeflnaaGreatDoor.SetsEach

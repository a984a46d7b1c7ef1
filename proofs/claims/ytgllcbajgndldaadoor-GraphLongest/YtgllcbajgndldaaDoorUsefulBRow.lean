/-
  Booleans in a row of their own.
-/
import Derived.Test.YtgllcbajgndldaaDoorGramBase
import Derived.Test.YtgllcbajgndldaaDoorBaseMath
import Derived.Test.YtgllcbajgndldaaDoorGramApart0
namespace Go.Proofs.YtgllcbajgndldaaDoor.UsefulRef
open Go.RowKit Go.Proofs.YtgllcbajgndldaaDoor.GramMath Go.Proofs.YtgllcbajgndldaaDoor.GramRow Go.Proofs.YtgllcbajgndldaaDoor.GramApart
set_option linter.unusedVariables false

/-- Booleans in a row of their own. -/
def BRow (w : World) (b n : Nat) (S : Nat → Bool) : Prop := ∀ i, i < n → w.cell? ⟨b, i, none⟩ = some (.bool (S i)) ∧ w.frozen? ⟨b, i, none⟩ = false

theorem BRow.below {w w' : World} {b n B : Nat} {S : Nat → Bool} (h : BRow w b n S) (hb : Below B w w') (hB : b < B) : BRow w' b n S := fun i hi =>
  ⟨(hb.cell (p := ⟨b, i, none⟩) hB).trans (h i hi).1, (hb.frozen (p := ⟨b, i, none⟩) hB).trans (h i hi).2⟩

theorem BRow.set {w : World} {b n t : Nat} {S : Nat → Bool} (h : BRow w b n S) (ht : t < n) : BRow (w.setCell ⟨b, t, none⟩ (.bool true)) b n (updB S t) := fun i hi => by
  refine ⟨?_, by rw [World.frozen?_setCell]; exact (h i hi).2⟩
  by_cases e : i = t
  · subst e
    rw [updB_at]
    exact World.cell?_setCell_same (h := (h i hi).1) ..
  · rw [updB_ne _ e, World.cell?_setCell_other (h := show (⟨b, t, none⟩ : Addr) ≠ ⟨b, i, none⟩ from fun h => e (by cases h; rfl))]
    exact (h i hi).1

theorem infoBool : (Tryd.prog.info? 4).map (fun i => (i.zero, i.size, i.bytes)) = some (some (.bool false), 1, 1) := by kernel_rfl

theorem madeB_any (n : Nat) (hn : n ≤ 60) (w : World) : (Instr.makeSlice 55 (.int .i64 (n : Int)) (.int .i64 (n : Int))).run Tryd.prog w = .ok (.slice (some ⟨w.heap.size, 0, none⟩) n n) (w.alloc (.cells (madeCells #[.bool false] n) 4)) := by
  obtain ⟨i0, hi, hz0, hz1, hz2⟩ := info_parts infoBool
  have h := run_makeSlice (P := Tryd.prog) w 55 4 i0 (.bool false) Tryd.underlying55 hi hz0 .i64 .i64 (n : Int) (n : Int) (by omega) (by omega) (by rw [hz1]; omega) (by rw [hz2]; omega) (by omega)
  rw [hz1] at h
  simpa [Value.cells] using h

theorem madeB_row (n : Nat) (w : World) : BRow (w.alloc (.cells (madeCells #[.bool false] n) 4)) w.heap.size n (fun _ => false) := fun i hi => by
  refine ⟨?_, by simp⟩
  have h := World.cell?_alloc_mark w (madeCells #[.bool false] n) 4 (0, 0) i
  rw [show (w.alloc (.cells (madeCells #[.bool false] n) 4)).cell? ⟨w.heap.size, i, none⟩ = (madeCells #[.bool false] n)[i]? from h]
  rw [← Array.getElem?_toList, toList_madeCells_one, List.getElem?_replicate, if_pos hi]

theorem madeS_row (n a : Nat) (w : World) : BRow (w.alloc (.cells ((madeCells #[.bool false] n).setIfInBounds a (.bool true)) 4)) w.heap.size n (updB (fun _ => false) a) := fun i hi => by
  refine ⟨?_, by simp⟩
  have h := World.cell?_alloc_mark w ((madeCells #[.bool false] n).setIfInBounds a (.bool true)) 4 (0, 0) i
  rw [show (w.alloc (.cells ((madeCells #[.bool false] n).setIfInBounds a (.bool true)) 4)).cell? ⟨w.heap.size, i, none⟩ = ((madeCells #[.bool false] n).setIfInBounds a (.bool true))[i]? from h]
  have hz : (madeCells #[Value.bool false] n).size = n := by rw [← Array.length_toList, toList_madeCells_one]; simp
  rw [Array.getElem?_setIfInBounds]
  by_cases e : a = i
  · subst e
    rw [if_pos rfl, if_pos (by omega), updB_at]
  · rw [if_neg e, updB_ne _ (fun h => e h.symm), ← Array.getElem?_toList, toList_madeCells_one, List.getElem?_replicate, if_pos hi]


theorem BRow.put {w : World} {b n t : Nat} {S : Nat → Bool} (h : BRow w b n S) (ht : t < n) (v : Bool) : BRow (w.setCell ⟨b, t, none⟩ (.bool v)) b n (fun i => if i = t then v else S i) := fun i hi => by
  refine ⟨?_, by rw [World.frozen?_setCell]; exact (h i hi).2⟩
  dsimp only
  by_cases e : i = t
  · subst e
    rw [if_pos rfl]
    exact World.cell?_setCell_same (h := (h i hi).1) ..
  · rw [if_neg e, World.cell?_setCell_other (h := show (⟨b, t, none⟩ : Addr) ≠ ⟨b, i, none⟩ from fun h => e (by cases h; rfl))]
    exact (h i hi).1
theorem BRow.congr {w : World} {b n : Nat} {S T : Nat → Bool} (h : BRow w b n S) (he : ∀ i, i < n → S i = T i) : BRow w b n T := fun i hi => by rw [← he i hi]; exact h i hi

end Go.Proofs.YtgllcbajgndldaaDoor.UsefulRef

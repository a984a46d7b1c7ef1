/-
  The library's Sort, Compact, Reverse and Contains of a row of numbers that a call owns.
-/
import Derived.Test.YtgllcbajgndldaaDoorGraphMath
import Derived.Test.YtgllcbajgndldaaDoorGramBase
import Derived.Test.YtgllcbajgndldaaDoorShelf
import Derived.Sort.OwnSortedInts
import Derived.OwnWalk
namespace Go.Proofs.YtgllcbajgndldaaDoor.GraphSort
open Go.RowKit Go.Sort Go.Proofs.YtgllcbajgndldaaDoor.GramMath Go.Proofs.YtgllcbajgndldaaDoor.GramRow Go.Proofs.YtgllcbajgndldaaDoor.GraphMath
set_option linter.unusedVariables false

def srt (zs : List Int) : List Int := zs.mergeSort fun x y => decide (x ≤ y)
theorem srt_length (zs : List Int) : (srt zs).length = zs.length := List.length_mergeSort ..
theorem grow_none (w : World) : grow w #[] = w := by simp [grow]
def iV (zs : List Int) : List Value := zs.map (Value.int .i64)
theorem iV_length (zs : List Int) : (iV zs).length = zs.length := by simp [iV]

theorem sort_own (base n : Nat) (v : Value) (zs : List Int) (w : World) (h : w.ownsRow base 3 1 v n (iV zs)) (hn : n ≤ 1000000) :
    Calls Tryd.prog 27 #[v] w fun e w' => e = .returned (.tuple #[]) ∧ w'.ownsRow base 3 1 v n (iV (srt zs)) ∧ w.grownBy w' v.ownBlock := by
  obtain ⟨hl, ⟨rfl, rfl⟩ | ⟨g, cap, cur, rfl, hb, hg, h1, h2, h3, h4⟩⟩ := h
  · obtain rfl : zs = [] := List.length_eq_zero_iff.1 (by simpa [iV] using hl)
    refine (Tryd.slices_Sort_int_none none 0 w).mono ?_
    rintro e w' ⟨he, rfl⟩
    exact ⟨he, ⟨by simp [iV, srt], .inl ⟨rfl, rfl⟩⟩, ⟨rfl, rfl, rfl, Nat.le_refl _, fun _ _ _ => rfl⟩⟩
  · have e0 : n = zs.length := by simpa [iV] using hl.symm
    subst e0
    refine (Tryd.slices_Sort_int g 0 cap zs w (holds_of_blockI hg (by rw [Nat.mul_one] at h4; exact h4)) (Array.getElem?_eq_some_iff.1 hg).1 (by omega)).mono ?_
    rintro e w' ⟨he, q, os, rfl⟩
    exact ⟨he, ownsRow_sortedI (srt_length zs) hb hg h1 h2 h3, grownBy_sortedI _⟩

theorem reverse_own (base n : Nat) (v : Value) (zs : List Int) (w : World) (h : w.ownsRow base 3 1 v n (iV zs)) (hn : n ≤ 1000000) :
    Calls Tryd.prog 43 #[v] w fun e w' => e = .returned (.tuple #[]) ∧ w'.ownsRow base 3 1 v n (iV zs.reverse) ∧ w.grownBy w' v.ownBlock := by
  obtain ⟨hl, ⟨rfl, rfl⟩ | ⟨g, cap, cur, rfl, hb, hg, h1, h2, h3, h4⟩⟩ := h
  · obtain rfl : zs = [] := List.length_eq_zero_iff.1 (by simpa [iV] using hl)
    refine (Tryd.slices_Reverse_int_empty none 0 w).mono ?_
    rintro e w' ⟨he, rfl⟩
    exact ⟨he, ⟨by simp [iV], .inl ⟨rfl, rfl⟩⟩, ⟨rfl, rfl, rfl, Nat.le_refl _, fun _ _ _ => rfl⟩⟩
  · have e0 : n = zs.length := by simpa [iV] using hl.symm
    subst e0
    refine (Tryd.slices_Reverse_int g 0 cap zs w (holds_of_blockI hg (by rw [Nat.mul_one] at h4; exact h4)) (by omega)).mono ?_
    rintro e w' ⟨he, q, rfl⟩
    rw [← grow_none (putRow _ _ _ _ _)]
    exact ⟨he, ownsRow_sortedI (by simp) hb hg h1 h2 h3, grownBy_sortedI _⟩

theorem compact_le (zs : List Int) : (Lib.compact zs).length ≤ zs.length := by
  unfold Lib.compact Lib.compactUpTo
  rw [List.length_map]
  refine Nat.le_trans (List.length_filter_le _ _) ?_
  simp

theorem compact_own (base n : Nat) (v : Value) (zs : List Int) (w : World) (h : w.ownsRow base 3 1 v n (iV zs)) (hn : n ≤ 1000000) :
    Calls Tryd.prog 28 #[v] w fun e w' => ∃ v', e = .returned v' ∧ w'.ownsRow base 3 1 v' (Lib.compact zs).length (iV (Lib.compact zs)) ∧ w.grownBy w' v.ownBlock ∧ v'.ownBlock = v.ownBlock := by
  obtain ⟨hl, ⟨rfl, rfl⟩ | ⟨g, cap, cur, rfl, hb, hg, h1, h2, h3, h4⟩⟩ := h
  · obtain rfl : zs = [] := List.length_eq_zero_iff.1 (by simpa [iV] using hl)
    refine (Tryd.slices_Compact_int_empty none 0 w).mono ?_
    rintro e w' ⟨he, rfl⟩
    exact ⟨_, he, ⟨by simp [iV, Lib.compact, Lib.compactUpTo], .inl ⟨rfl, rfl⟩⟩, ⟨rfl, rfl, rfl, Nat.le_refl _, fun _ _ _ => rfl⟩, rfl⟩
  · have e0 : n = zs.length := by simpa [iV] using hl.symm
    subst e0
    have hle := compact_le zs
    refine (Tryd.slices_Compact_int g 0 cap zs w (holds_of_blockI hg (by rw [Nat.mul_one] at h4; exact h4)) (by omega) h1).mono ?_
    rintro e w' ⟨he, q, rfl⟩
    rw [← grow_none (putRow _ _ _ _ _)]
    obtain ⟨L, hL⟩ : ∃ L, L = Lib.compact zs ++ List.replicate (zs.length - (Lib.compact zs).length) 0 := ⟨_, rfl⟩
    have hLl : L.length = zs.length := by rw [hL]; simp; omega
    rw [← hL]
    refine ⟨_, he, ⟨by simp [iV], .inr ⟨g, cap, _, rfl, hb, heap_sortedI _ hg, by omega, h2, by simp [putCells, h3], ?_⟩⟩, grownBy_sortedI _, rfl⟩
    have hp := take_putCellsI cur L (by omega)
    rw [Nat.mul_one]
    have h5 : ((putCells (Value.int .i64) 0 L.toArray cur).toList.take L.length).take (Lib.compact zs).length = (L.map (Value.int .i64)).take (Lib.compact zs).length := by rw [hp]
    rw [List.take_take, Nat.min_eq_left (by omega)] at h5
    rw [h5, hL, List.map_append, List.take_left' (by simp)]
    rfl

theorem contains_row (b n c : Nat) (zs : List Int) (x : Int) (w : World) (hl : zs.length = n) (hn : n ≤ 1000000) (hr : ∀ j y, zs[j]? = some y → w.cell? ⟨b, j, none⟩ = some (.int .i64 y)) :
    Calls Tryd.prog 30 #[.slice (some ⟨b, 0, none⟩) n c, .int .i64 x] w fun e w' => e = .returned (.bool (zs.contains x)) ∧ w' = w := by
  have h := Tryd.slices_Contains_int b 0 n c zs x w (by omega) (by omega) (fun j hj => by
    rw [Nat.zero_add]
    refine hr j _ ?_
    rw [List.getElem?_eq_getElem hj]
    simp [List.getD, List.getElem?_eq_getElem hj])
  rw [List.take_of_length_le (by omega)] at h
  exact h

theorem contains_own (base n : Nat) (v : Value) (zs : List Int) (x : Int) (w : World) (h : w.ownsRow base 3 1 v n (iV zs)) (hn : n ≤ 1000000) :
    Calls Tryd.prog 30 #[v, .int .i64 x] w fun e w' => e = .returned (.bool (zs.contains x)) ∧ w' = w := by
  obtain ⟨hl, ⟨rfl, rfl⟩ | ⟨g, cap, cur, rfl, hb, hg, h1, h2, h3, h4⟩⟩ := id h
  · obtain rfl : zs = [] := List.length_eq_zero_iff.1 (by simpa [iV] using hl)
    exact Tryd.slices_Contains_int_empty none 0 x w
  · have e0 : n = zs.length := by simpa [iV] using hl.symm
    refine contains_row g n cap zs x w e0.symm hn (fun j y hj => ?_)
    have hj2 := (List.getElem?_eq_some_iff.1 hj).1
    have := h.cellAt j (by omega)
    rw [this]
    simp [iV, hj]

end Go.Proofs.YtgllcbajgndldaaDoor.GraphSort

/-
  The document's own Comes: which nonterminal comes to which.
-/
import Derived.Test.YtffdnpjkcchmnaaDoorGramRCheck
import Derived.Test.YtffdnpjkcchmnaaDoorBaseMath
import Derived.Test.YtffdnpjkcchmnaaDoorGramApart0
namespace Go.Proofs.YtffdnpjkcchmnaaDoor.GramRef
open Go.RowKit Go.Proofs.YtffdnpjkcchmnaaDoor.GramMath Go.Proofs.YtffdnpjkcchmnaaDoor.GramRow Go.Proofs.YtffdnpjkcchmnaaDoor.GramOne Go.Proofs.YtffdnpjkcchmnaaDoor.GramAboveFn Go.Proofs.YtffdnpjkcchmnaaDoor.GramApart
set_option linter.unusedVariables false

/-- Booleans in a row of their own. -/
def BRow (w : World) (b n : Nat) (S : Nat → Bool) : Prop := ∀ i, i < n → w.cell? ⟨b, i, none⟩ = some (.bool (S i)) ∧ w.frozen? ⟨b, i, none⟩ = false

theorem BRow.below {w w' : World} {b n B : Nat} {S : Nat → Bool} (h : BRow w b n S) (hb : Below B w w') (hB : b < B) : BRow w' b n S := fun i hi =>
  ⟨(hb.cell (p := ⟨b, i, none⟩) hB).trans (h i hi).1, (hb.frozen (p := ⟨b, i, none⟩) hB).trans (h i hi).2⟩

theorem BRow.set {w : World} {b n t : Nat} {S : Nat → Bool} (h : BRow w b n S) (ht : t < n) : BRow (w.setCell ⟨b, t, none⟩ (.bool true)) b n (updB S t) := fun i hi => by
  refine ⟨?_, by rw [World.frozen?_setCell]; exact (h i hi).2⟩
  by_cases e : i = t
  · subst e
    rw [updB_at]
    exact World.cell?_setCell_same (h := (h i hi).1) ..
  · rw [updB_ne _ e, World.cell?_setCell_other (h := show (⟨b, t, none⟩ : Addr) ≠ ⟨b, i, none⟩ from fun h => e (by cases h; rfl))]
    exact (h i hi).1

theorem infoBool : (Tryd.prog.info? 4).map (fun i => (i.zero, i.size, i.bytes)) = some (some (.bool false), 1, 1) := by kernel_rfl

theorem madeB_any (n : Nat) (hn : n ≤ 60) (w : World) : (Instr.makeSlice 127 (.int .i64 (n : Int)) (.int .i64 (n : Int))).run Tryd.prog w = .ok (.slice (some ⟨w.heap.size, 0, none⟩) n n) (w.alloc (.cells (madeCells #[.bool false] n) 4)) := by
  obtain ⟨i0, hi, hz0, hz1, hz2⟩ := info_parts infoBool
  have h := run_makeSlice (P := Tryd.prog) w 127 4 i0 (.bool false) Tryd.underlying127 hi hz0 .i64 .i64 (n : Int) (n : Int) (by omega) (by omega) (by rw [hz1]; omega) (by rw [hz2]; omega) (by omega)
  rw [hz1] at h
  simpa [Value.cells] using h

theorem madeB_row (n : Nat) (w : World) : BRow (w.alloc (.cells (madeCells #[.bool false] n) 4)) w.heap.size n (fun _ => false) := fun i hi => by
  refine ⟨?_, by simp⟩
  have h := World.cell?_alloc_mark w (madeCells #[.bool false] n) 4 (0, 0) i
  rw [show (w.alloc (.cells (madeCells #[.bool false] n) 4)).cell? ⟨w.heap.size, i, none⟩ = (madeCells #[.bool false] n)[i]? from h]
  rw [← Array.getElem?_toList, toList_madeCells_one, List.getElem?_replicate, if_pos hi]

theorem madeS_row (n a : Nat) (w : World) : BRow (w.alloc (.cells ((madeCells #[.bool false] n).setIfInBounds a (.bool true)) 4)) w.heap.size n (updB (fun _ => false) a) := fun i hi => by
  refine ⟨?_, by simp⟩
  have h := World.cell?_alloc_mark w ((madeCells #[.bool false] n).setIfInBounds a (.bool true)) 4 (0, 0) i
  rw [show (w.alloc (.cells ((madeCells #[.bool false] n).setIfInBounds a (.bool true)) 4)).cell? ⟨w.heap.size, i, none⟩ = ((madeCells #[.bool false] n).setIfInBounds a (.bool true))[i]? from h]
  have hz : (madeCells #[Value.bool false] n).size = n := by rw [← Array.length_toList, toList_madeCells_one]; simp
  rw [Array.getElem?_setIfInBounds]
  by_cases e : a = i
  · subst e
    rw [if_pos rfl, if_pos (by omega), updB_at]
  · rw [if_neg e, updB_ne _ (fun h => e h.symm), ← Array.getElem?_toList, toList_madeCells_one, List.getElem?_replicate, if_pos hi]

theorem own_set {w : World} {base : Nat} {e : TypeId} {size n b o : Nat} {v u : Value} {xs : List Value} (h : w.ownsRow base e size v n xs) (hb : b < base) : (w.setCell ⟨b, o, none⟩ u).ownsRow base e size v n xs := by
  obtain ⟨h1, h | ⟨g, cap, cur, hv, hbb, hg, rest⟩⟩ := h
  · exact ⟨h1, .inl h⟩
  · exact ⟨h1, .inr ⟨g, cap, cur, hv, hbb, by rw [Below.heap_setCell _ _ _ _ (show g ≠ b by omega)]; exact hg, rest⟩⟩

def numV (x : Nat) : Value := .int .i64 (x : Int)

theorem own_one (w : World) (base x : Nat) (hb : base ≤ w.heap.size) : (w.alloc (.cells #[.int .i64 (x : Int)] 3)).ownsRow base 3 1 (.slice (some ⟨w.heap.size, 0, none⟩) 1 1) 1 ([x].map numV) :=
  ⟨rfl, .inr ⟨w.heap.size, 1, #[.int .i64 (x : Int)], rfl, hb, heap_new _ _, Nat.le_refl _, by decide, rfl, rfl⟩⟩

theorem own_get {w : World} {base g c : Nat} {T : List Nat} (h : w.ownsRow base 3 1 (.slice (some ⟨g, 0, none⟩) T.length c) T.length (T.map numV)) {i x : Nat} (hx : T[i]? = some x) : w.cell? ⟨g, i, none⟩ = some (.int .i64 (x : Int)) := by
  have hi := (List.getElem?_eq_some_iff.1 hx).1
  rw [h.cellAt i (by omega), List.getElem?_map, hx]
  rfl

end Go.Proofs.YtffdnpjkcchmnaaDoor.GramRef

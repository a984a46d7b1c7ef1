/-
  The sets that the document names: the helper that asks for them answers true, and writes nothing that was there.
-/
import Derived.Test.YtkjjdmdlkdoedaaDoorSetsText
namespace Go.Proofs.YtkjjdmdlkdoedaaDoor.SetsKnown
open Go.RowKit Go.Proofs.YtkjjdmdlkdoedaaDoor.SetsMath Go.Proofs.YtkjjdmdlkdoedaaDoor.SetsOne Go.Proofs.YtkjjdmdlkdoedaaDoor.SetsMany Go.Proofs.YtkjjdmdlkdoedaaDoor.SetsAlg Go.Proofs.YtkjjdmdlkdoedaaDoor.SetsEach

theorem lit_row (w : World) (t : TypeId) (zs : List Int) : Row .i64 (w.alloc (.cells (zs.map (Value.int .i64)).toArray t)) (some ⟨w.heap.size, 0, none⟩) zs.length zs := by
  intro i hi
  refine ⟨w.heap.size, 0, rfl, ?_⟩
  have h : (w.alloc (.cells (zs.map (Value.int .i64)).toArray t)).heap[w.heap.size]? = some (.cells (zs.map (Value.int .i64)).toArray t) := World.alloc_heap_new w _
  unfold World.cell?
  simp only [Nat.zero_add]
  rw [h]
  simp [hi]

theorem of1 (w : World) (c : Nat) : Calls Tryd.prog 27 #[.slice (some ⟨w.heap.size, 0, none⟩) 5 c] (w.alloc (.cells #[.int .i64 3, .int .i64 1, .int .i64 3, .int .i64 64, .int .i64 (-1)] 3)) fun e w' =>
    e = .returned (.int .u64 10) ∧ w' = w.alloc (.cells #[.int .i64 3, .int .i64 1, .int .i64 3, .int .i64 64, .int .i64 (-1)] 3) := by
  have h := of_any (some ⟨w.heap.size, 0, none⟩) 5 c [3, 1, 3, 64, -1] _ (lit_row w 3 [3, 1, 3, 64, -1]) (by decide) (by omega)
  rw [show ofI ([3, 1, 3, 64, -1].take 5) = 10 from by decide +kernel] at h
  exact h

theorem of2 (w : World) (c : Nat) : Calls Tryd.prog 27 #[.slice (some ⟨w.heap.size, 0, none⟩) 2 c] (w.alloc (.cells #[.int .i64 1, .int .i64 3] 3)) fun e w' =>
    e = .returned (.int .u64 10) ∧ w' = w.alloc (.cells #[.int .i64 1, .int .i64 3] 3) := by
  have h := of_any (some ⟨w.heap.size, 0, none⟩) 2 c [1, 3] _ (lit_row w 3 [1, 3]) (by decide) (by omega)
  rw [show ofI ([1, 3].take 2) = 10 from by decide +kernel] at h
  exact h

theorem of3 (w : World) (c : Nat) : Calls Tryd.prog 27 #[.slice (some ⟨w.heap.size, 0, none⟩) 2 c] (w.alloc (.cells #[.int .i64 2, .int .i64 0] 3)) fun e w' =>
    e = .returned (.int .u64 5) ∧ w' = w.alloc (.cells #[.int .i64 2, .int .i64 0] 3) := by
  have h := of_any (some ⟨w.heap.size, 0, none⟩) 2 c [2, 0] _ (lit_row w 3 [2, 0]) (by decide) (by omega)
  rw [show ofI ([2, 0].take 2) = 5 from by decide +kernel] at h
  exact h

theorem set10 : IsSet 10 := by unfold IsSet top; omega
theorem set5 : IsSet 5 := by unfold IsSet top; omega

theorem least10 (w : World) (hT : Tab w) : Calls Tryd.prog 17 #[.int .u64 10] w fun e w' => e = .returned (.tuple #[.int .i64 1, .bool true]) ∧ w' = w := by
  have h := least_some 10 w set10 (by decide) hT
  rw [show lowI 10 = 1 from by decide +kernel] at h
  exact h

theorem full3 (w : World) : Calls Tryd.prog 41 #[.int .i64 3] w fun e w' => e = .returned (.int .u64 7) ∧ w' = w := by
  have h := full_any 3 w
  rw [show fullI 3 = 7 from by decide +kernel] at h
  exact h

theorem full99 (w : World) : Calls Tryd.prog 41 #[.int .i64 99] w fun e w' => e = .returned (.int .u64 (fullI 99)) ∧ w' = w := full_any 99 w

theorem len99 (w : World) : Calls Tryd.prog 16 #[.int .u64 (fullI 99)] w fun e w' => e = .returned (.int .i64 64) ∧ w' = w := by
  have h := len_any (fullI 99) w (fullI_isSet 99)
  rw [show (((numsI (fullI 99) 64).length : Nat) : Int) = 64 from by decide +kernel] at h
  exact h

theorem join5 : joinL 5 = [48, 32, 50] := by
  have e : numsS 5 = [⟨0, by omega⟩, ⟨2, by omega⟩] := num_inj (by rw [numsS_val]; decide +kernel)
  have d0 : Lib.decDigits 0 = [48] := by rw [Lib.decDigits]; decide
  have d2 : Lib.decDigits 2 = [50] := by rw [Lib.decDigits]; decide
  unfold joinL
  rw [e]
  show Lib.join [Lib.decDigits 0, Lib.decDigits 2] [32] = _
  rw [d0, d2]
  rfl

theorem text5 (w : World) (hT : Tab w) (hG : 0 < w.heap.size) : Calls Tryd.prog 23 #[.int .u64 5, .nilFunc] w fun e W' => e = .returned (.string ⟨#[123, 48, 32, 50, 125]⟩) ∧ Below w.heap.size w W' := by
  have h := text_nil 5 w set5 hT hG
  rw [show (⟨#[123]⟩ ++ joinS 5 ++ ⟨#[125]⟩ : ByteArray) = ⟨#[123, 48, 32, 50, 125]⟩ from by unfold joinS; rw [join5]; rfl] at h
  exact h

set_option maxHeartbeats 2000000 in
theorem known_any (w : World) (hT : Tab w) (hG : 0 < w.heap.size) : Calls Tryd.prog 26 #[] w fun e w' => e = .returned (.bool true) ∧ Below w.heap.size w w' := by
  go_enter Tryd.func26, Tryd.ntmps26
  go_wp2_with fail
  refine (of1 w 5).mono ?_
  rintro e w' ⟨rfl, rfl⟩
  have B1 : Below w.heap.size w (w.alloc (.cells #[.int .i64 3, .int .i64 1, .int .i64 3, .int .i64 64, .int .i64 (-1)] 3)) := (Below.refl _ _).alloc (Nat.le_refl _) _
  have hT1 := Tab.from hT B1 hG
  go_wp2_with fail
  refine (least10 _ hT1).mono ?_
  rintro e w' ⟨rfl, rfl⟩
  have h2 := of2 (w.alloc (.cells #[.int .i64 3, .int .i64 1, .int .i64 3, .int .i64 64, .int .i64 (-1)] 3)) 2
  rw [World.size_alloc] at h2
  go_wp2_with fail
  refine h2.mono ?_
  clear h2
  rintro e w' ⟨rfl, rfl⟩
  go_wp2_with fail
  refine (full3 _).mono ?_
  rintro e w' ⟨rfl, rfl⟩
  go_wp2_with fail
  refine (full99 _).mono ?_
  rintro e w' ⟨rfl, rfl⟩
  go_wp2_with fail
  refine (len99 _).mono ?_
  rintro e w' ⟨rfl, rfl⟩
  have h3 := of3 ((w.alloc (.cells #[.int .i64 3, .int .i64 1, .int .i64 3, .int .i64 64, .int .i64 (-1)] 3)).alloc (.cells #[.int .i64 1, .int .i64 3] 3)) 2
  rw [World.size_alloc, World.size_alloc] at h3
  go_wp2_with fail
  refine h3.mono ?_
  clear h3
  rintro e w' ⟨rfl, rfl⟩
  have B3 : Below w.heap.size w (((w.alloc (.cells #[.int .i64 3, .int .i64 1, .int .i64 3, .int .i64 64, .int .i64 (-1)] 3)).alloc (.cells #[.int .i64 1, .int .i64 3] 3)).alloc (.cells #[.int .i64 2, .int .i64 0] 3)) := (B1.alloc (by simp) _).alloc (by simp; omega) _
  go_wp2_with fail
  refine (text5 _ (Tab.from hT B3 hG) (by simp)).mono ?_
  rintro e w4 ⟨rfl, hb4⟩
  go_wp2_with fail
  go_ret
  exact ⟨rfl, B3.trans (hb4.mono (by simp; omega))⟩

end Go.Proofs.YtkjjdmdlkdoedaaDoor.SetsKnown

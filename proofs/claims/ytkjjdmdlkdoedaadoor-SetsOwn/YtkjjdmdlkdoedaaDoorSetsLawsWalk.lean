/-
  The walk of SetsLaws: it answers true for every three sets, and writes nothing that was there.
-/
import Derived.Test.YtkjjdmdlkdoedaaDoorSetsKnown
import Derived.Test.YtkjjdmdlkdoedaaDoorSetsLawsMath
import Derived.Test.YtkjjdmdlkdoedaaDoorRows
namespace Go.Proofs.YtkjjdmdlkdoedaaDoor.SetsLawsW
open Go.RowKit Go.Proofs.YtkjjdmdlkdoedaaDoor.SetsMath Go.Proofs.YtkjjdmdlkdoedaaDoor.SetsOne Go.Proofs.YtkjjdmdlkdoedaaDoor.SetsMany Go.Proofs.YtkjjdmdlkdoedaaDoor.SetsAlg Go.Proofs.YtkjjdmdlkdoedaaDoor.SetsEach Go.Proofs.YtkjjdmdlkdoedaaDoor.SetsKnown

theorem lit_rowS (w : World) (t : TypeId) (zs : List Int) : Row .u64 (w.alloc (.cells (zs.map (Value.int .u64)).toArray t)) (some ⟨w.heap.size, 0, none⟩) zs.length zs := by
  intro i hi
  refine ⟨w.heap.size, 0, rfl, ?_⟩
  have h : (w.alloc (.cells (zs.map (Value.int .u64)).toArray t)).heap[w.heap.size]? = some (.cells (zs.map (Value.int .u64)).toArray t) := World.alloc_heap_new w _
  unfold World.cell?
  simp only [Nat.zero_add]
  rw [h]
  simp [hi]

theorem union2 (w0 : World) (s t : Int) (w : World) (c : Nat) (hs : IsSet s) (ht : IsSet t) (hB : Below w0.heap.size w0 w) :
    Calls Tryd.prog 9 #[.slice (some ⟨w.heap.size, 0, none⟩) 2 c] (w.alloc (.cells #[.int .u64 s, .int .u64 t] 24)) fun e w' => e = .returned (.int .u64 (orI s t)) ∧ Below w0.heap.size w0 w' := by
  have h := union_any (some ⟨w.heap.size, 0, none⟩) 2 c [s, t] _ (lit_rowS w 24 [s, t]) (by simp) (by omega) (by intro x hx; simp at hx; rcases hx with rfl | rfl <;> assumption)
  rw [show allI ([s, t].take 2) = orI s t from by show orI (orI 0 s) t = _; rw [orI_zero hs]] at h
  exact h.mono fun e w' ⟨he, hw⟩ => ⟨he, by rw [hw]; exact hB.alloc hB.size _⟩

theorem union3 (w0 : World) (s t u : Int) (w : World) (c : Nat) (hs : IsSet s) (ht : IsSet t) (hu : IsSet u) (hB : Below w0.heap.size w0 w) :
    Calls Tryd.prog 9 #[.slice (some ⟨w.heap.size, 0, none⟩) 3 c] (w.alloc (.cells #[.int .u64 s, .int .u64 t, .int .u64 u] 24)) fun e w' => e = .returned (.int .u64 (orI (orI s t) u)) ∧ Below w0.heap.size w0 w' := by
  have h := union_any (some ⟨w.heap.size, 0, none⟩) 3 c [s, t, u] _ (lit_rowS w 24 [s, t, u]) (by simp) (by omega) (by intro x hx; simp at hx; rcases hx with rfl | rfl | rfl <;> assumption)
  rw [show allI ([s, t, u].take 3) = orI (orI s t) u from by show orI (orI (orI 0 s) t) u = _; rw [orI_zero hs]] at h
  exact h.mono fun e w' ⟨he, hw⟩ => ⟨he, by rw [hw]; exact hB.alloc hB.size _⟩

theorem known2 (w : World) (hT : Tab w) (hG : 0 < w.heap.size) : Calls Tryd.prog 26 #[] w fun e w' => e = .returned (.bool true) ∧ Below w.heap.size w w' := known_any w hT hG

theorem numbers2 (w0 : World) (s : Int) (w : World) (hs : IsSet s) (hB : Below w0.heap.size w0 w) (hT : Tab w0) (hG : 0 < w0.heap.size) :
    Calls Tryd.prog 20 #[.int .u64 s] w fun e W' => ∃ a c, e = .returned (.slice a (numsI s 64).length c) ∧ Row .i64 W' a (numsI s 64).length (numsI s 64) ∧ Below w0.heap.size w0 W' := by
  have hs0 := hB.size
  refine (numbers_any s w hs (Tab.from hT hB hG) (by omega)).mono fun e W' ⟨v, he, hown, hb⟩ => ?_
  obtain ⟨a, c, rfl, hrow, _, _⟩ := own_row hown
  exact ⟨a, c, he, hrow, hB.trans (hb.mono hB.size)⟩

theorem of_nums (s : Int) (a : Option Addr) (c : Nat) (w : World) (hs : IsSet s) (hr : Row .i64 w a (numsI s 64).length (numsI s 64)) :
    Calls Tryd.prog 27 #[.slice a (numsI s 64).length c] w fun e w' => e = .returned (.int .u64 s) ∧ w' = w := by
  have hle := numsI_le s 64
  have h := of_any a (numsI s 64).length c (numsI s 64) w hr (Nat.le_refl _) (by omega)
  rw [List.take_length, of_numbers hs] at h
  exact h

set_option maxHeartbeats 4000000 in
theorem walk (s t u : Int) (w : World) (hs : IsSet s) (ht : IsSet t) (hu : IsSet u) (hT : Tab w) (hG : 0 < w.heap.size) :
    Calls Tryd.prog 5 #[.int .u64 s, .int .u64 t, .int .u64 u] w fun e w' => e = .returned (.bool true) ∧ Below w.heap.size w w' := by
  have i1 := orI_isSet hs ht
  have i2 := meetI_isSet (t := t) hs
  have i3 := minusI_isSet (t := t) hs
  have i4 := orI_isSet ht hu
  have i5 := meetI_isSet (t := u) hs
  have i6 := minusI_isSet (t := u) hs
  have i7 := orI_isSet ht hs
  have h1 := card s t 64 (by omega)
  have h1a : ((numsI (orI s t) 64).length : Int) + ((numsI (meetI s t) 64).length : Int) ≤ ((numsI s 64).length : Int) + ((numsI t 64).length : Int) := by omega
  have h1b : ((numsI s 64).length : Int) + ((numsI t 64).length : Int) ≤ ((numsI (orI s t) 64).length : Int) + ((numsI (meetI s t) 64).length : Int) := by omega
  clear h1
  have l1 := numsI_le (orI s t) 64
  have l2 := numsI_le (meetI s t) 64
  have l3 := numsI_le s 64
  have l4 := numsI_le t 64
  have h2 := parts hs ht
  have h3 := parts_apart hs ht
  have h4 := within_or hs ht
  have h5 := meet_or (t := t) (u := u) hs
  have h6 := minus_or hs ht hu
  have h7 := or_turned hs ht hu
  go_enter Tryd.func5, Tryd.ntmps5
  go_wp2_with fail
  refine (known2 _ hT hG).mono ?_
  rintro e w1 ⟨rfl, hb1⟩
  go_wp2_with fail
  refine (union2 w _ _ _ _ (by assumption) (by assumption) (by assumption)).mono ?_
  rintro e w2 ⟨rfl, hb2⟩
  go_wp2_with fail
  refine (len_any _ _ (by assumption)).mono ?_
  rintro e w3 ⟨rfl, rfl⟩
  go_wp2_with fail
  refine (meet_any _ _ _ (by assumption) (by assumption)).mono ?_
  rintro e w4 ⟨rfl, rfl⟩
  go_wp2_with fail
  refine (len_any _ _ (by assumption)).mono ?_
  rintro e w5 ⟨rfl, rfl⟩
  go_wp2_with fail
  refine (len_any _ _ (by assumption)).mono ?_
  rintro e w6 ⟨rfl, rfl⟩
  go_wp2_with fail
  refine (len_any _ _ (by assumption)).mono ?_
  rintro e w7 ⟨rfl, rfl⟩
  go_wp2_with fail
  refine (meet_any _ _ _ (by assumption) (by assumption)).mono ?_
  rintro e w8 ⟨rfl, rfl⟩
  go_wp2_with fail
  refine (minus_any _ _ _ (by assumption) (by assumption)).mono ?_
  rintro e w9 ⟨rfl, rfl⟩
  go_wp2_with fail
  refine (union2 w _ _ _ _ (by assumption) (by assumption) (by assumption)).mono ?_
  rintro e w10 ⟨rfl, hb10⟩
  go_wp2_with fail
  refine (meet_any _ _ _ (by assumption) (by assumption)).mono ?_
  rintro e w11 ⟨rfl, rfl⟩
  go_wp2_with fail
  refine (minus_any _ _ _ (by assumption) (by assumption)).mono ?_
  rintro e w12 ⟨rfl, rfl⟩
  go_wp2_with fail
  refine (meet_any _ _ _ (by assumption) (by assumption)).mono ?_
  rintro e w13 ⟨rfl, rfl⟩
  go_wp2_with fail
  refine (within_any _ _ _ (by assumption) (by assumption)).mono ?_
  rintro e w14 ⟨rfl, rfl⟩
  go_wp2_with fail
  refine (union2 w _ _ _ _ (by assumption) (by assumption) (by assumption)).mono ?_
  rintro e w15 ⟨rfl, hb15⟩
  go_wp2_with fail
  refine (within_any _ _ _ (by assumption) (by assumption)).mono ?_
  rintro e w16 ⟨rfl, rfl⟩
  go_wp2_with fail
  refine (minus_any _ _ _ (by assumption) (by assumption)).mono ?_
  rintro e w17 ⟨rfl, rfl⟩
  go_wp2_with fail
  refine (union2 w _ _ _ _ (by assumption) (by assumption) (by assumption)).mono ?_
  rintro e w18 ⟨rfl, hb18⟩
  go_wp2_with fail
  refine (meet_any _ _ _ (by assumption) (by assumption)).mono ?_
  rintro e w19 ⟨rfl, rfl⟩
  go_wp2_with fail
  refine (meet_any _ _ _ (by assumption) (by assumption)).mono ?_
  rintro e w20 ⟨rfl, rfl⟩
  go_wp2_with fail
  refine (meet_any _ _ _ (by assumption) (by assumption)).mono ?_
  rintro e w21 ⟨rfl, rfl⟩
  go_wp2_with fail
  refine (union2 w _ _ _ _ (by assumption) (by assumption) (by assumption)).mono ?_
  rintro e w22 ⟨rfl, hb22⟩
  go_wp2_with fail
  refine (union2 w _ _ _ _ (by assumption) (by assumption) (by assumption)).mono ?_
  rintro e w23 ⟨rfl, hb23⟩
  go_wp2_with fail
  refine (minus_any _ _ _ (by assumption) (by assumption)).mono ?_
  rintro e w24 ⟨rfl, rfl⟩
  go_wp2_with fail
  refine (minus_any _ _ _ (by assumption) (by assumption)).mono ?_
  rintro e w25 ⟨rfl, rfl⟩
  go_wp2_with fail
  refine (minus_any _ _ _ (by assumption) (by assumption)).mono ?_
  rintro e w26 ⟨rfl, rfl⟩
  go_wp2_with fail
  refine (meet_any _ _ _ (by assumption) (by assumption)).mono ?_
  rintro e w27 ⟨rfl, rfl⟩
  go_wp2_with fail
  refine (union3 w _ _ _ _ _ (by assumption) (by assumption) (by assumption) (by assumption)).mono ?_
  rintro e w28 ⟨rfl, hb28⟩
  go_wp2_with fail
  refine (union2 w _ _ _ _ (by assumption) (by assumption) (by assumption)).mono ?_
  rintro e w29 ⟨rfl, hb29⟩
  go_wp2_with fail
  refine (union2 w _ _ _ _ (by assumption) (by assumption) (by assumption)).mono ?_
  rintro e w30 ⟨rfl, hb30⟩
  go_wp2_with fail
  refine (numbers2 w _ _ (by assumption) (by assumption) hT hG).mono ?_
  rintro e w31 ⟨av, cv, rfl, hrow, hb31⟩
  go_wp2_with fail
  refine (of_nums s _ _ _ hs (by assumption)).mono ?_
  rintro e w32 ⟨rfl, rfl⟩
  go_wp2_with fail
  go_ret
  exact ⟨rfl, by assumption⟩

end Go.Proofs.YtkjjdmdlkdoedaaDoor.SetsLawsW

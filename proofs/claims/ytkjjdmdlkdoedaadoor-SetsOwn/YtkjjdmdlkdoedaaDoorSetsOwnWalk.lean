/-
  The walk of SetsOwn: it answers true for every two sets, and writes nothing that was there.
-/
import Derived.Test.YtkjjdmdlkdoedaaDoorSetsLawsWalk
import Derived.Test.YtkjjdmdlkdoedaaDoorSetsApart
namespace Go.Proofs.YtkjjdmdlkdoedaaDoor.SetsOwnW
open Go.RowKit Go.Proofs.YtkjjdmdlkdoedaaDoor.SetsMath Go.Proofs.YtkjjdmdlkdoedaaDoor.SetsOne Go.Proofs.YtkjjdmdlkdoedaaDoor.SetsMany Go.Proofs.YtkjjdmdlkdoedaaDoor.SetsAlg Go.Proofs.YtkjjdmdlkdoedaaDoor.SetsEach Go.Proofs.YtkjjdmdlkdoedaaDoor.SetsKnown Go.Proofs.YtkjjdmdlkdoedaaDoor.SetsLawsW Go.Proofs.YtkjjdmdlkdoedaaDoor.SetsApart

theorem fit2 (w0 : World) (s : Int) (w : World) (hs : IsSet s) (hB : Below w0.heap.size w0 w) (hT : Tab w0) (hG : 0 < w0.heap.size) :
    Calls Tryd.prog 20 #[.int .u64 s] w fun e W' => e = .returned (.slice (some ⟨w.heap.size, 0, none⟩) (numsI s 64).length (numsI s 64).length) ∧
      (∃ cur, RowAt W' w.heap.size 3 cur ∧ cur.size = (numsI s 64).length) ∧ Below w.heap.size w W' ∧ Below w0.heap.size w0 W' := by
  have hs0 := hB.size
  refine (numbers_fit s w hs (Tab.from hT hB hG) (by omega)).mono fun e W' ⟨he, hown, hb⟩ => ?_
  obtain ⟨cur, hr, hsz, _⟩ := own_at hown
  exact ⟨he, ⟨cur, hr, hsz⟩, hb, hB.trans (hb.mono hB.size)⟩

theorem apart4 (w0 : World) (g0 g1 g2 g3 n0 n1 n2 n3 c : Nat) (w : World) (hB : Below w0.heap.size w0 w) (o0 : w0.heap.size ≤ g0) (o1 : g0 < g1) (o2 : g1 < g2) (o3 : g2 < g3)
    (h0 : ∃ cur, RowAt w g0 3 cur ∧ cur.size = n0) (h1 : ∃ cur, RowAt w g1 3 cur ∧ cur.size = n1) (h2 : ∃ cur, RowAt w g2 3 cur ∧ cur.size = n2) (h3 : ∃ cur, RowAt w g3 3 cur ∧ cur.size = n3)
    (l0 : n0 ≤ 64) (l1 : n1 ≤ 64) (l2 : n2 ≤ 64) (l3 : n3 ≤ 64) :
    Calls Tryd.prog 31 #[.slice (some ⟨w.heap.size, 0, none⟩) 4 c] (w.alloc (.cells #[.slice (some ⟨g0, 0, none⟩) n0 n0, .slice (some ⟨g1, 0, none⟩) n1 n1, .slice (some ⟨g2, 0, none⟩) n2 n2, .slice (some ⟨g3, 0, none⟩) n3 n3] 25)) fun e w' =>
      e = .returned (.bool true) ∧ Below w0.heap.size w0 w' := by
  have hsz := hB.size
  refine (apart_ints w0.heap.size 4 w.heap.size c (fun j => [g0, g1, g2, g3].getD j 0) (fun j => [n0, n1, n2, n3].getD j 0) _ _ (by omega) (World.alloc_heap_new w _) ?_ ?_ ?_ ?_ hsz ?_).mono fun e w' ⟨he, hb⟩ => ⟨he, (hB.alloc hsz _).trans hb⟩
  · intro j hj
    match j, hj with
    | 0, _ => rfl
    | 1, _ => rfl
    | 2, _ => rfl
    | 3, _ => rfl
  · intro j hj
    match j, hj with
    | 0, _ => obtain ⟨cur, hr, hs⟩ := h0; exact ⟨cur, hr.alloc _, hs, fun q _ hc => by omega⟩
    | 1, _ => obtain ⟨cur, hr, hs⟩ := h1; exact ⟨cur, hr.alloc _, hs, fun q _ hc => by omega⟩
    | 2, _ => obtain ⟨cur, hr, hs⟩ := h2; exact ⟨cur, hr.alloc _, hs, fun q _ hc => by omega⟩
    | 3, _ => obtain ⟨cur, hr, hs⟩ := h3; exact ⟨cur, hr.alloc _, hs, fun q _ hc => by omega⟩
  · intro a ha b hb hab
    match a, ha, b, hb with
    | 0, _, 0, _ => exact absurd rfl hab
    | 0, _, 1, _ => show g0 ≠ g1; omega
    | 0, _, 2, _ => show g0 ≠ g2; omega
    | 0, _, 3, _ => show g0 ≠ g3; omega
    | 1, _, 0, _ => show g1 ≠ g0; omega
    | 1, _, 1, _ => exact absurd rfl hab
    | 1, _, 2, _ => show g1 ≠ g2; omega
    | 1, _, 3, _ => show g1 ≠ g3; omega
    | 2, _, 0, _ => show g2 ≠ g0; omega
    | 2, _, 1, _ => show g2 ≠ g1; omega
    | 2, _, 2, _ => exact absurd rfl hab
    | 2, _, 3, _ => show g2 ≠ g3; omega
    | 3, _, 0, _ => show g3 ≠ g0; omega
    | 3, _, 1, _ => show g3 ≠ g1; omega
    | 3, _, 2, _ => show g3 ≠ g2; omega
    | 3, _, 3, _ => exact absurd rfl hab
  · intro j hj
    match j, hj with
    | 0, _ => exact l0
    | 1, _ => exact l1
    | 2, _ => exact l2
    | 3, _ => exact l3
  · intro j hj
    match j, hj with
    | 0, _ => exact o0
    | 1, _ => show w0.heap.size ≤ g1; omega
    | 2, _ => show w0.heap.size ≤ g2; omega
    | 3, _ => show w0.heap.size ≤ g3; omega

theorem row_on {w w' : World} {b n : Nat} {t : TypeId} (h : ∃ cur, RowAt w b t cur ∧ cur.size = n) (hb : Below w.heap.size w w') : ∃ cur, RowAt w' b t cur ∧ cur.size = n := by
  obtain ⟨cur, hr, hs⟩ := h
  exact ⟨cur, hr.below hb hr.lt, hs⟩

theorem row_lt {w : World} {b n : Nat} {t : TypeId} (h : ∃ cur, RowAt w b t cur ∧ cur.size = n) : b < w.heap.size := by
  obtain ⟨cur, hr, _⟩ := h
  exact hr.lt

set_option maxHeartbeats 4000000 in
theorem walk (s t : Int) (w : World) (hs : IsSet s) (ht : IsSet t) (hT : Tab w) (hG : 0 < w.heap.size) :
    Calls Tryd.prog 7 #[.int .u64 s, .int .u64 t] w fun e w' => e = .returned (.bool true) ∧ Below w.heap.size w w' := by
  have l1 := numsI_le s 64
  have l2 := numsI_le t 64
  go_enter Tryd.func7, Tryd.ntmps7
  go_wp2_with fail
  refine (known2 _ hT hG).mono ?_
  rintro e w1 ⟨rfl, hb1⟩
  have z1 := hb1.size
  go_wp2_with fail
  refine (fit2 w s _ hs hb1 hT hG).mono ?_
  rintro e w2 ⟨rfl, r1, b2, hb2⟩
  have q1 := row_lt r1
  go_wp2_with fail
  refine (fit2 w s _ hs hb2 hT hG).mono ?_
  rintro e w3 ⟨rfl, r2, b3, hb3⟩
  have q2 := row_lt r2
  have r1 := row_on r1 b3
  go_wp2_with fail
  refine (fit2 w t _ ht hb3 hT hG).mono ?_
  rintro e w4 ⟨rfl, r3, b4, hb4⟩
  have q3 := row_lt r3
  have r1 := row_on r1 b4
  have r2 := row_on r2 b4
  go_wp2_with fail
  refine (fit2 w t _ ht hb4 hT hG).mono ?_
  rintro e w5 ⟨rfl, r4, b5, hb5⟩
  have r1 := row_on r1 b5
  have r2 := row_on r2 b5
  have r3 := row_on r3 b5
  clear b2 b3 b4 b5 hb1 hb2 hb3 hb4
  go_wp2_with fail
  refine (apart4 w _ _ _ _ _ _ _ _ _ _ hb5 z1 q1 q2 q3 r1 r2 r3 r4 l1 l1 l2 l2).mono ?_
  rintro e w6 ⟨rfl, hb6⟩
  go_wp2_with fail
  refine (len_any _ _ hs).mono ?_
  rintro e w7 ⟨rfl, rfl⟩
  go_wp2_with fail
  refine (fit2 w s _ hs hb6 hT hG).mono ?_
  rintro e w8 ⟨rfl, _, _, hb8⟩
  go_wp2_with fail
  go_ret
  exact ⟨rfl, hb8⟩

end Go.Proofs.YtkjjdmdlkdoedaaDoor.SetsOwnW

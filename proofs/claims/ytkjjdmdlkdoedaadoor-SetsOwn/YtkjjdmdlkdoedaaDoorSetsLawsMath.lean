/-
  The laws of sets as numbers of 64 bits: plain arithmetic, nothing of the program.
-/
import Derived.Test.YtkjjdmdlkdoedaaDoorSetsMath3
namespace Go.Proofs.YtkjjdmdlkdoedaaDoor.SetsMath

theorem numsI_len (s : Int) {k : Nat} (hk : k < 64) : (numsI s (k + 1)).length = (numsI s k).length + (if hasB s k = true then 1 else 0) := by
  cases h : hasB s k
  · rw [numsI_no hk h]; simp
  · rw [numsI_yes hk h]; simp

theorem card (s t : Int) : ∀ k, k ≤ 64 → (numsI (orI s t) k).length + (numsI (meetI s t) k).length = (numsI s k).length + (numsI t k).length
  | 0, _ => by simp [numsI_zero]
  | k + 1, h => by
    have ih := card s t k (by omega)
    have hk : k < 64 := by omega
    rw [numsI_len _ hk, numsI_len _ hk, numsI_len _ hk, numsI_len _ hk, hasB_orI s t hk, hasB_meetI s t hk]
    cases hasB s k <;> cases hasB t k <;> simp <;> omega

theorem orI_zero {s : Int} (hs : IsSet s) : orI 0 s = s := by
  unfold IsSet at hs
  unfold orI
  simp
  omega

theorem hasB_zero {j : Nat} (h : j < 64) : hasB 0 j = false := by
  rw [hasB_nat _ h]
  simp

theorem parts {s t : Int} (hs : IsSet s) (ht : IsSet t) : orI (meetI s t) (minusI s t) = s := by
  refine ext_set (orI_isSet (meetI_isSet hs) (minusI_isSet hs)) hs fun j hj => ?_
  rw [hasB_orI _ _ hj, hasB_meetI _ _ hj, hasB_minusI _ ht hj]
  cases hasB s j <;> cases hasB t j <;> rfl

theorem parts_apart {s t : Int} (hs : IsSet s) (ht : IsSet t) : meetI (meetI s t) (minusI s t) = 0 := by
  refine ext_set (meetI_isSet (meetI_isSet hs)) zero_isSet fun j hj => ?_
  rw [hasB_meetI _ _ hj, hasB_meetI _ _ hj, hasB_minusI _ ht hj, hasB_zero hj]
  cases hasB s j <;> cases hasB t j <;> rfl

theorem within_or {s t : Int} (hs : IsSet s) (ht : IsSet t) : (orI s t == t) = (minusI s t == 0) := by
  rw [Bool.eq_iff_iff, beq_iff_eq, beq_iff_eq]
  constructor
  · intro h
    refine ext_set (minusI_isSet hs) zero_isSet fun j hj => ?_
    have := congrArg (fun x => hasB x (j : Int)) h
    simp only [hasB_orI _ _ hj] at this
    rw [hasB_minusI _ ht hj, hasB_zero hj]
    cases h1 : hasB s j <;> cases h2 : hasB t j <;> simp_all
  · intro h
    refine ext_set (orI_isSet hs ht) ht fun j hj => ?_
    have := congrArg (fun x => hasB x (j : Int)) h
    simp only [hasB_minusI _ ht hj, hasB_zero hj] at this
    rw [hasB_orI _ _ hj]
    cases h1 : hasB s j <;> cases h2 : hasB t j <;> simp_all

theorem meet_or {s t u : Int} (hs : IsSet s) : meetI s (orI t u) = orI (meetI s t) (meetI s u) := by
  refine ext_set (meetI_isSet hs) (orI_isSet (meetI_isSet hs) (meetI_isSet hs)) fun j hj => ?_
  rw [hasB_meetI _ _ hj, hasB_orI _ _ hj, hasB_orI _ _ hj, hasB_meetI _ _ hj, hasB_meetI _ _ hj]
  cases hasB s j <;> cases hasB t j <;> rfl

theorem minus_or {s t u : Int} (hs : IsSet s) (ht : IsSet t) (hu : IsSet u) : minusI s (orI t u) = meetI (minusI s t) (minusI s u) := by
  refine ext_set (minusI_isSet hs) (meetI_isSet (minusI_isSet hs)) fun j hj => ?_
  rw [hasB_minusI _ (orI_isSet ht hu) hj, hasB_orI _ _ hj, hasB_meetI _ _ hj, hasB_minusI _ ht hj, hasB_minusI _ hu hj]
  cases hasB s j <;> cases hasB t j <;> cases hasB u j <;> rfl

theorem or_turned {s t u : Int} (hs : IsSet s) (ht : IsSet t) (hu : IsSet u) : orI u (orI t s) = orI (orI s t) u := by
  refine ext_set (orI_isSet hu (orI_isSet ht hs)) (orI_isSet (orI_isSet hs ht) hu) fun j hj => ?_
  rw [hasB_orI _ _ hj, hasB_orI _ _ hj, hasB_orI _ _ hj, hasB_orI _ _ hj]
  cases hasB s j <;> cases hasB t j <;> cases hasB u j <;> rfl

theorem of_numbers {s : Int} (hs : IsSet s) : ofI (numsI s 64) = s := by
  unfold ofI
  rw [fold_all zero_isSet hs, orI_zero hs]

end Go.Proofs.YtkjjdmdlkdoedaaDoor.SetsMath

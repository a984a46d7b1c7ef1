/-
  A set's numbers rise; of two unlike sets the one that has the greatest number in which they differ is the greater number: plain arithmetic, nothing of the program.
-/
import Derived.Test.YtkjjdmdlkdoedaaDoorSetsLawsMath
namespace Go.Proofs.YtkjjdmdlkdoedaaDoor.SetsMath

theorem numsN_sorted (x k : Nat) : (numsN x k).Pairwise (· < ·) := List.Pairwise.filter _ List.pairwise_lt_range

theorem numsI_rise (s : Int) {i j : Nat} (hij : i < j) (hj : j < (numsI s 64).length) : (numsI s 64).getD i 0 < (numsI s 64).getD j 0 := by
  have h := List.pairwise_iff_getElem.1 (numsN_sorted s.toNat 64)
  have hl : (numsI s 64).length = (numsN s.toNat 64).length := by simp [numsI]
  have hi : i < (numsN s.toNat 64).length := by omega
  have hj' : j < (numsN s.toNat 64).length := by omega
  have := h i j hi hj' hij
  rw [List.getD_eq_getElem?_getD, List.getD_eq_getElem?_getD, List.getElem?_eq_getElem (by omega), List.getElem?_eq_getElem hj]
  simp only [numsI, List.getElem_map, Option.getD_some]
  omega

theorem numsI_mem (s : Int) {i : Nat} (h : i < (numsI s 64).length) : ∃ c : Nat, (numsI s 64).getD i 0 = (c : Int) ∧ c < 64 ∧ hasB s c = true := by
  have hl : (numsI s 64).length = (numsN s.toNat 64).length := by simp [numsI]
  have hi : i < (numsN s.toNat 64).length := by omega
  have hm : (numsN s.toNat 64)[i] ∈ (List.range 64).filter (fun i => s.toNat.testBit i) := List.getElem_mem hi
  obtain ⟨h1, h2⟩ := List.mem_filter.1 hm
  have h1 := List.mem_range.1 h1
  refine ⟨(numsN s.toNat 64)[i], ?_, h1, ?_⟩
  · rw [List.getD_eq_getElem?_getD, List.getElem?_eq_getElem h]
    simp [numsI]
  · rw [hasB_nat _ h1]; exact h2

theorem without_has (s : Int) {c : Nat} (hc : c < 64) : hasB (withoutI s c) c = false := by
  rw [hasB_withoutI s hc hc]; simp

theorem with_without {s : Int} (hs : IsSet s) {c : Nat} (hc : c < 64) (h : hasB s c = true) : withI (withoutI s c) c = s := by
  refine ext_set (withI_isSet _ (withoutI_isSet _ hs)) hs fun j hj => ?_
  rw [hasB_withI _ hc hj, hasB_withoutI _ hc hj]
  by_cases e : c = j
  · subst e; simp [h]
  · simp [e]

theorem numsN_last (x : Nat) : ∀ k, numsN x k = [] ∧ (∀ j, j < k → x.testBit j = false) ∨
    ∃ m l, numsN x k = l ++ [m] ∧ m < k ∧ x.testBit m = true ∧ ∀ j, m < j → j < k → x.testBit j = false
  | 0 => .inl ⟨rfl, fun j h => absurd h (by omega)⟩
  | k + 1 => by
    have e : numsN x (k + 1) = numsN x k ++ (if x.testBit k = true then [k] else []) := by
      unfold numsN
      rw [List.range_succ, List.filter_append]
      congr 1
      cases h : x.testBit k <;> simp [h]
    cases h : x.testBit k
    · rw [h] at e
      simp only [Bool.false_eq_true, if_false, List.append_nil] at e
      rcases numsN_last x k with ⟨h1, h2⟩ | ⟨m, l, h1, h2, h3, h4⟩
      · exact .inl ⟨by rw [e, h1], fun j hj => by
          by_cases hjk : j = k
          · rw [hjk]; exact h
          · exact h2 j (by omega)⟩
      · exact .inr ⟨m, l, by rw [e, h1], by omega, h3, fun j hj hk => by
          by_cases hjk : j = k
          · rw [hjk]; exact h
          · exact h4 j hj (by omega)⟩
    · rw [h] at e
      simp only [if_true] at e
      exact .inr ⟨k, numsN x k, e, by omega, h, fun j hj hk => by omega⟩

def apartI (s t : Int) : Int := orI (minusI s t) (minusI t s)

theorem apart_bit {s t : Int} (hs : IsSet s) (ht : IsSet t) {j : Nat} (h : j < 64) : hasB (apartI s t) j = (hasB s j != hasB t j) := by
  unfold apartI
  rw [hasB_orI _ _ h, hasB_minusI _ ht h, hasB_minusI _ hs h]
  cases hasB s j <;> cases hasB t j <;> rfl

theorem top_bit {x y m : Nat} (hx : x.testBit m = true) (hy : y.testBit m = false) (h : ∀ j, m < j → x.testBit j = y.testBit j) : y < x := by
  have e : x / 2 ^ (m + 1) = y / 2 ^ (m + 1) := by
    apply Nat.eq_of_testBit_eq
    intro i
    rw [Nat.testBit_div_two_pow, Nat.testBit_div_two_pow]
    exact h _ (by omega)
  rw [Nat.testBit_eq_decide_div_mod_eq] at hx hy
  have hx := of_decide_eq_true hx
  have hy := of_decide_eq_false hy
  rw [Nat.pow_succ, ← Nat.div_div_eq_div_mul, ← Nat.div_div_eq_div_mul] at e
  have hlt : y / 2 ^ m < x / 2 ^ m := by omega
  apply Nat.lt_of_not_le
  intro hle
  have := Nat.div_le_div_right (c := 2 ^ m) hle
  omega

theorem apart_none {s t : Int} (hs : IsSet s) (ht : IsSet t) (h : numsI (apartI s t) 64 = []) : s = t := by
  have hn : numsN (apartI s t).toNat 64 = [] := by
    unfold numsI at h
    simpa using h
  refine ext_set hs ht fun j hj => ?_
  rcases numsN_last (apartI s t).toNat 64 with ⟨_, h2⟩ | ⟨m, l, h1, _⟩
  · have := h2 j hj
    rw [← hasB_nat _ hj, apart_bit hs ht hj] at this
    cases h1 : hasB s j <;> cases h2 : hasB t j <;> simp_all
  · rw [hn] at h1
    simp at h1

theorem apart_some {s t : Int} (hs : IsSet s) (ht : IsSet t) (h : ¬ numsI (apartI s t) 64 = []) :
    ∃ (m : Nat) (l : List Int), numsI (apartI s t) 64 = l ++ [(m : Int)] ∧ m < 64 ∧ hasB s m = !hasB t m ∧ (hasB s m = true → t < s) ∧ (hasB t m = true → s < t) := by
  rcases numsN_last (apartI s t).toNat 64 with ⟨h1, _⟩ | ⟨m, l, h1, h2, h3, h4⟩
  · exact absurd (by unfold numsI; rw [h1]; rfl) h
  · refine ⟨m, l.map (fun (n : Nat) => (n : Int)), by unfold numsI; rw [h1]; simp, h2, ?_, ?_, ?_⟩
    · rw [← hasB_nat _ h2, apart_bit hs ht h2] at h3
      cases hp : hasB s m <;> cases hq : hasB t m <;> rw [hp, hq] at h3 <;> simp at h3 ⊢
    all_goals
      have hhigh : ∀ j, m < j → s.toNat.testBit j = t.toNat.testBit j := by
        intro j hj
        by_cases hj64 : j < 64
        · have := h4 j hj hj64
          rw [← hasB_nat _ hj64, apart_bit hs ht hj64, hasB_nat _ hj64, hasB_nat _ hj64] at this
          cases h1 : s.toNat.testBit j <;> cases h2 : t.toNat.testBit j <;> simp_all
        · rw [testBit_big (toNat_lt hs) (by omega), testBit_big (toNat_lt ht) (by omega)]
      have hdiff : hasB (apartI s t) m = true := by rw [hasB_nat _ h2]; exact h3
      rw [apart_bit hs ht h2] at hdiff
      intro hb
      rw [hb] at hdiff
    · have h0 : t.toNat.testBit m = false := by rw [← hasB_nat _ h2]; cases hq : hasB t m <;> simp_all
      have := top_bit (x := s.toNat) (y := t.toNat) (m := m) (by rw [← hasB_nat _ h2]; exact hb) h0 hhigh
      omega
    · have h0 : s.toNat.testBit m = false := by rw [← hasB_nat _ h2]; cases hq : hasB s m <;> simp_all
      have := top_bit (x := t.toNat) (y := s.toNat) (m := m) (by rw [← hasB_nat _ h2]; exact hb) h0 (fun j hj => (hhigh j hj).symm)
      omega

end Go.Proofs.YtkjjdmdlkdoedaaDoor.SetsMath

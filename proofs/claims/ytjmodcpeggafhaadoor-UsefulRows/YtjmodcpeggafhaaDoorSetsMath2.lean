/-
  More on sets as numbers of 64 bits: their numbers in order, what two sets have together, how many, the least; plain arithmetic, nothing of the program.
-/
import Derived.Test.YtjmodcpeggafhaaDoorSetsMath
import Derived.Lib.TrailingZeros
namespace Go.Proofs.YtjmodcpeggafhaaDoor.SetsMath

def numsN (x k : Nat) : List Nat := (List.range k).filter (fun i => x.testBit i)
def numsI (s : Int) (k : Nat) : List Int := (numsN s.toNat k).map (fun (n : Nat) => (n : Int))
def orI (s t : Int) : Int := ((s.toNat ||| t.toNat : Nat) : Int)
def meetI (s t : Int) : Int := ((s.toNat &&& t.toNat : Nat) : Int)
def minusI (s t : Int) : Int := ((s.toNat &&& (18446744073709551615 - t.toNat) : Nat) : Int)
def maskI (x : Int) (k : Nat) : Int := ((x.toNat % 2 ^ k : Nat) : Int)
def lowI (s : Int) : Int := (Lib.ctz 64 s.toNat : Nat)

theorem two64 : (2 : Nat) ^ 64 = 18446744073709551616 := by decide

theorem testBit_big {x : Nat} (h : x < 18446744073709551616) {i : Nat} (hi : 64 ≤ i) : x.testBit i = false :=
  Nat.testBit_lt_two_pow (Nat.lt_of_lt_of_le h (by rw [← two64]; exact Nat.pow_le_pow_right (by omega) hi))

theorem testBit_not {x : Nat} (h : x < 18446744073709551616) (i : Nat) : (18446744073709551615 - x).testBit i = (decide (i < 64) && !x.testBit i) := by
  have := Nat.testBit_two_pow_sub_succ (n := 64) (x := x) (by rw [two64]; exact h) i
  rw [← this]
  congr 1
  omega

theorem orI_isSet {s t : Int} (hs : IsSet s) (ht : IsSet t) : IsSet (orI s t) := by
  have h1 : s.toNat ||| t.toNat < 2 ^ 64 := Nat.or_lt_two_pow (by rw [two64]; exact toNat_lt hs) (by rw [two64]; exact toNat_lt ht)
  rw [two64] at h1
  unfold IsSet orI top
  omega

theorem meetI_isSet {s t : Int} (hs : IsSet s) : IsSet (meetI s t) := by
  have h1 : s.toNat &&& t.toNat ≤ s.toNat := Nat.and_le_left
  have := toNat_lt hs
  unfold IsSet meetI top
  omega

theorem minusI_isSet {s t : Int} (hs : IsSet s) : IsSet (minusI s t) := by
  have h1 : s.toNat &&& (18446744073709551615 - t.toNat) ≤ s.toNat := Nat.and_le_left
  have := toNat_lt hs
  unfold IsSet minusI top
  omega

theorem maskI_isSet {s : Int} (k : Nat) (hs : IsSet s) : IsSet (maskI s k) := by
  have h1 : s.toNat % 2 ^ k ≤ s.toNat := Nat.mod_le _ _
  have := toNat_lt hs
  unfold IsSet maskI top
  omega

theorem hasB_nat (s : Int) {j : Nat} (h : j < 64) : hasB s j = s.toNat.testBit j := by
  rw [hasB_in (by omega) (by omega)]; simp

theorem ext_set {a b : Int} (ha : IsSet a) (hb : IsSet b) (h : ∀ j : Nat, j < 64 → hasB a j = hasB b j) : a = b := by
  have e : a.toNat = b.toNat := by
    apply Nat.eq_of_testBit_eq
    intro i
    by_cases hi : i < 64
    · have := h i hi
      rwa [hasB_nat _ hi, hasB_nat _ hi] at this
    · rw [testBit_big (toNat_lt ha) (by omega), testBit_big (toNat_lt hb) (by omega)]
  unfold IsSet at ha hb
  omega

theorem hasB_orI (s t : Int) {j : Nat} (h : j < 64) : hasB (orI s t) j = (hasB s j || hasB t j) := by
  rw [hasB_nat _ h, hasB_nat _ h, hasB_nat _ h]
  simp [orI]

theorem hasB_meetI (s t : Int) {j : Nat} (h : j < 64) : hasB (meetI s t) j = (hasB s j && hasB t j) := by
  rw [hasB_nat _ h, hasB_nat _ h, hasB_nat _ h]
  simp [meetI]

theorem hasB_minusI (s : Int) {t : Int} (ht : IsSet t) {j : Nat} (h : j < 64) : hasB (minusI s t) j = (hasB s j && !hasB t j) := by
  rw [hasB_nat _ h, hasB_nat _ h, hasB_nat _ h]
  simp [minusI, testBit_not (toNat_lt ht), h]

theorem hasB_maskI (s : Int) (k : Nat) {j : Nat} (h : j < 64) : hasB (maskI s k) j = (decide (j < k) && hasB s j) := by
  rw [hasB_nat _ h, hasB_nat _ h, maskI, Int.toNat_natCast, Nat.testBit_mod_two_pow]

theorem hasB_withI (s : Int) {k j : Nat} (hk : k < 64) (h : j < 64) : hasB (withI s k) j = (hasB s j || decide (k = j)) := by
  rw [hasB_nat _ h, hasB_nat _ h, withI, oneN_in (by omega) (by omega)]
  simp [Nat.testBit_two_pow]

theorem hasB_withoutI (s : Int) {k j : Nat} (hk : k < 64) (h : j < 64) : hasB (withoutI s k) j = (hasB s j && !decide (k = j)) := by
  rw [hasB_nat _ h, hasB_nat _ h, withoutI, oneN_in (by omega) (by omega)]
  simp [testBit_not (pow_lt hk), Nat.testBit_two_pow, h]

theorem maskI_zero (s : Int) : maskI s 0 = 0 := by simp [maskI, Nat.mod_one]

theorem maskI_all {s : Int} (hs : IsSet s) : maskI s 64 = s := by
  have := toNat_lt hs
  unfold IsSet at hs
  unfold maskI
  rw [two64, Nat.mod_eq_of_lt this]
  omega

theorem mask_yes {s : Int} (hs : IsSet s) {k : Nat} (hk : k < 64) (h : hasB s k = true) : withI (maskI s k) k = maskI s (k + 1) := by
  refine ext_set (withI_isSet _ (maskI_isSet k hs)) (maskI_isSet _ hs) fun j hj => ?_
  rw [hasB_withI _ hk hj, hasB_maskI _ _ hj, hasB_maskI _ _ hj]
  by_cases e : k = j
  · subst e; simp [h]
  · have : (j < k + 1) = (j < k) := by simp; omega
    simp [e, this]

theorem mask_no {s : Int} (hs : IsSet s) {k : Nat} (h : hasB s k = false) : maskI s k = maskI s (k + 1) := by
  refine ext_set (maskI_isSet _ hs) (maskI_isSet _ hs) fun j hj => ?_
  rw [hasB_maskI _ _ hj, hasB_maskI _ _ hj]
  by_cases e : k = j
  · subst e; simp [h]
  · have : (j < k + 1) = (j < k) := by simp; omega
    simp [this]

theorem numsI_zero (s : Int) : numsI s 0 = [] := rfl

theorem numsI_yes {s : Int} {k : Nat} (hk : k < 64) (h : hasB s k = true) : numsI s (k + 1) = numsI s k ++ [(k : Int)] := by
  rw [hasB_nat _ hk] at h
  simp [numsI, numsN, List.range_succ, List.filter_append, h]

theorem numsI_no {s : Int} {k : Nat} (hk : k < 64) (h : hasB s k = false) : numsI s (k + 1) = numsI s k := by
  rw [hasB_nat _ hk] at h
  simp [numsI, numsN, List.range_succ, List.filter_append, h]

theorem numsI_le (s : Int) (k : Nat) : (numsI s k).length ≤ k := by
  unfold numsI numsN
  rw [List.length_map]
  have := List.length_filter_le (fun i => s.toNat.testBit i) (List.range k)
  simpa using this

theorem numsI_bound {s : Int} {k : Nat} {z : Int} (h : z ∈ numsI s k) : 0 ≤ z ∧ z < k ∧ hasB s z = true ∨ 64 ≤ z := by
  unfold numsI numsN at h
  obtain ⟨n, hn, rfl⟩ := List.mem_map.1 h
  obtain ⟨h1, h2⟩ := List.mem_filter.1 hn
  have h1 := List.mem_range.1 h1
  by_cases h64 : n < 64
  · left
    exact ⟨by omega, by omega, by rw [hasB_nat _ h64]; exact h2⟩
  · right; omega

theorem fold_with {s t : Int} (hs : IsSet s) (ht : IsSet t) (k : Nat) (hk : k ≤ 64) : (numsI t k).foldl withI s = orI s (maskI t k) := by
  induction k with
  | zero =>
    rw [maskI_zero]
    unfold IsSet at hs
    simp [numsI_zero, orI]
    omega
  | succ k ih =>
    have ih := ih (by omega)
    have hm := maskI_isSet k ht
    cases hb : hasB t k
    · rw [numsI_no (by omega) hb, ih, ← mask_no ht hb]
    · rw [numsI_yes (by omega) hb, List.foldl_append, ih, ← mask_yes ht (by omega) hb]
      show withI (orI s (maskI t k)) k = _
      refine ext_set (withI_isSet _ (orI_isSet hs hm)) (orI_isSet hs (withI_isSet _ hm)) fun j hj => ?_
      rw [hasB_withI _ (by omega) hj, hasB_orI _ _ hj, hasB_orI _ _ hj, hasB_withI _ (by omega) hj, Bool.or_assoc]

theorem fold_all {s t : Int} (hs : IsSet s) (ht : IsSet t) : (numsI t 64).foldl withI s = orI s t := by
  rw [fold_with hs ht 64 (by omega), maskI_all ht]

theorem fold_isSet {s t : Int} (hs : IsSet s) (k : Nat) : IsSet (((numsI t 64).take k).foldl withI s) := ofI_isSet _ hs

theorem bits_or2 {s t : Int} (hs : IsSet s) (ht : IsSet t) : bits .or .u64 s t = orI s t := by
  unfold IsSet top at hs ht
  rw [u64_or _ _ hs.1 hs.2 ht.1 ht.2]; rfl

theorem bits_and2 {s t : Int} (hs : IsSet s) (ht : IsSet t) : bits .and .u64 s t = meetI s t := by
  unfold IsSet top at hs ht
  rw [u64_and _ _ hs.1 hs.2 ht.1 ht.2]; rfl

theorem bits_andNot2 {s t : Int} (hs : IsSet s) (ht : IsSet t) : bits .andNot .u64 s t = minusI s t := by
  unfold IsSet top at hs ht
  rw [u64_andNot _ _ hs.1 hs.2 ht.1 ht.2]; rfl

/-- The union of a list of sets. -/
def allI (l : List Int) : Int := l.foldl orI 0

theorem allI_isSet {l : List Int} (h : ∀ x ∈ l, IsSet x) : IsSet (allI l) := by
  unfold allI
  have : ∀ s, IsSet s → IsSet (l.foldl orI s) := by
    induction l with
    | nil => exact fun s hs => hs
    | cons x r ih => exact fun s hs => ih (fun y hy => h y (List.mem_cons_of_mem _ hy)) _ (orI_isSet hs (h x (List.mem_cons_self)))
  exact this 0 zero_isSet

theorem allI_take {l : List Int} {k : Nat} (hk : k < l.length) : allI (l.take (k + 1)) = orI (allI (l.take k)) (l.getD k 0) := by
  unfold allI
  rw [List.take_succ_eq_append_getElem hk, List.foldl_append]
  simp [List.getD_eq_getElem?_getD, hk]

end Go.Proofs.YtjmodcpeggafhaaDoor.SetsMath

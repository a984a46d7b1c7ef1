/-
  Sets as numbers of 64 bits: what one number, more, less, the first n and the whole of a list come to, as plain arithmetic; nothing of the program is used here.
-/
import Derived.WalkKit
import Derived.Laws.BitsAllLaws
namespace Go.Proofs.YtjmodcpeggafhaaDoor.SetsMath

/-- 2^64, behind a name. -/
def top : Int := 18446744073709551616
def IsSet (s : Int) : Prop := 0 ≤ s ∧ s < top

def oneN (k : Int) : Nat := if 0 ≤ k ∧ k < 64 then 2 ^ k.toNat else 0
def oneI (k : Int) : Int := (oneN k : Int)
def hasB (s k : Int) : Bool := decide (0 ≤ k) && decide (k < 64) && s.toNat.testBit k.toNat
def withI (s k : Int) : Int := ((s.toNat ||| oneN k : Nat) : Int)
def withoutI (s k : Int) : Int := ((s.toNat &&& (18446744073709551615 - oneN k) : Nat) : Int)
def fullI (n : Int) : Int := if n < 1 then 0 else if 64 ≤ n then 18446744073709551615 else ((2 ^ n.toNat - 1 : Nat) : Int)
def ofI (l : List Int) : Int := l.foldl withI 0

theorem pow_lt {k : Nat} (h : k < 64) : 2 ^ k < 18446744073709551616 := by
  have := Nat.pow_lt_pow_right (a := 2) (by omega) h
  simpa using this

theorem oneN_lt (k : Int) : oneN k < 18446744073709551616 := by
  unfold oneN
  split
  · exact pow_lt (by omega)
  · omega

theorem oneI_isSet (k : Int) : IsSet (oneI k) := by
  have := oneN_lt k
  unfold IsSet oneI top
  omega

theorem toNat_lt {s : Int} (h : IsSet s) : s.toNat < 18446744073709551616 := by
  unfold IsSet top at h
  omega

theorem withI_isSet {s : Int} (k : Int) (h : IsSet s) : IsSet (withI s k) := by
  have h1 : s.toNat ||| oneN k < 2 ^ 64 := Nat.or_lt_two_pow (by have := toNat_lt h; simpa using this) (by have := oneN_lt k; simpa using this)
  unfold IsSet withI top
  simp at h1
  omega

theorem withoutI_isSet {s : Int} (k : Int) (h : IsSet s) : IsSet (withoutI s k) := by
  have h1 : s.toNat &&& (18446744073709551615 - oneN k) ≤ s.toNat := Nat.and_le_left
  have := toNat_lt h
  unfold IsSet withoutI top
  omega

theorem bits_or {s : Int} (k : Int) (h : IsSet s) : bits .or .u64 s (oneI k) = withI s k := by
  have h0 := h
  have h1 := oneI_isSet k
  unfold IsSet top at h0 h1
  rw [u64_or _ _ h0.1 h0.2 h1.1 h1.2]
  simp [withI, oneI]

theorem bits_andNot {s : Int} (k : Int) (h : IsSet s) : bits .andNot .u64 s (oneI k) = withoutI s k := by
  have h0 := h
  have h1 := oneI_isSet k
  unfold IsSet top at h0 h1
  rw [u64_andNot _ _ h0.1 h0.2 h1.1 h1.2]
  simp [withoutI, oneI]

theorem bits_and_ne {s : Int} (k : Int) (h : IsSet s) : (bits .and .u64 s (oneI k) != 0) = hasB s k := by
  have h0 := h
  have h1 := oneI_isSet k
  unfold IsSet top at h0 h1
  rw [u64_and _ _ h0.1 h0.2 h1.1 h1.2]
  unfold hasB oneI oneN
  by_cases hk : 0 ≤ k ∧ k < 64
  · obtain ⟨a, b⟩ := hk
    have e : s.toNat &&& 2 ^ k.toNat = s.toNat / 2 ^ k.toNat % 2 * 2 ^ k.toNat := nat_bit _ _
    have hp : 0 < 2 ^ k.toNat := Nat.pow_pos (by omega)
    simp only [a, b, and_self, if_true, Int.toNat_natCast, decide_true, Bool.true_and]
    rw [e, Nat.testBit_eq_decide_div_mod_eq]
    rcases Nat.mod_two_eq_zero_or_one (s.toNat / 2 ^ k.toNat) with h | h
    · simp [h]
    · rw [h]
      have : ¬ (2 : Int) ^ k.toNat = 0 := by
        have : (0 : Int) < 2 ^ k.toNat := Int.pow_pos (by decide)
        omega
      simp [this]
  · have : (decide (0 ≤ k) && decide (k < 64)) = false := by
      rw [← Bool.decide_and]; exact decide_eq_false hk
    simp [hk, this]

theorem hasB_out {s k : Int} (h : ¬ (0 ≤ k ∧ k < 64)) : hasB s k = false := by
  have : (decide (0 ≤ k) && decide (k < 64)) = false := by
    rw [← Bool.decide_and]; exact decide_eq_false h
  simp [hasB, this]

theorem hasB_in {s k : Int} (a : 0 ≤ k) (b : k < 64) : hasB s k = s.toNat.testBit k.toNat := by
  simp [hasB, a, b]

theorem hasB_div {s k : Int} (h : IsSet s) (a : 0 ≤ k) (b : k < 64) : (s / 2 ^ k.toNat % 2 == 1) = hasB s k := by
  rw [hasB_in a b, Nat.testBit_eq_decide_div_mod_eq]
  have h0 : s = (s.toNat : Int) := by unfold IsSet at h; omega
  have e : s / 2 ^ k.toNat % 2 = ((s.toNat / 2 ^ k.toNat % 2 : Nat) : Int) := by
    rw [h0]; simp
  rw [e]
  generalize s.toNat / 2 ^ k.toNat % 2 = m
  rw [Bool.eq_iff_iff, beq_iff_eq, decide_eq_true_iff]
  omega

theorem oneN_in {k : Int} (a : 0 ≤ k) (b : k < 64) : oneN k = 2 ^ k.toNat := by simp [oneN, a, b]

theorem oneI_in {k : Int} (a : 0 ≤ k) (b : k < 64) : oneI k = 2 ^ k.toNat := by simp [oneI, oneN, a, b]

theorem withI_out {s k : Int} (h : IsSet s) (hk : ¬ (0 ≤ k ∧ k < 64)) : withI s k = s := by
  unfold IsSet at h
  simp [withI, oneN, hk]
  omega

theorem withI_same {s k : Int} (h : IsSet s) (hk : hasB s k = true) : withI s k = s := by
  by_cases hin : 0 ≤ k ∧ k < 64
  · obtain ⟨a, b⟩ := hin
    rw [hasB_in a b] at hk
    have e : s.toNat ||| 2 ^ k.toNat = s.toNat := by
      apply Nat.eq_of_testBit_eq
      intro i
      rw [Nat.testBit_or, Nat.testBit_two_pow]
      by_cases hi : k.toNat = i
      · subst hi; simp [hk]
      · simp [hi]
    unfold IsSet at h
    rw [withI, oneN_in a b, e]
    omega
  · exact withI_out h hin

theorem or_add {x k : Nat} (hx : x.testBit k = false) : x ||| 2 ^ k = x + 2 ^ k := by
  induction k generalizing x with
  | zero =>
    have h1 : (x ||| 1) / 2 = x / 2 := by rw [Nat.or_div_two]; simp
    have h2 : (x ||| 1) % 2 = 1 := by simp
    simp at hx
    simp only [Nat.pow_zero]
    omega
  | succ k ih =>
    rw [Nat.testBit_succ] at hx
    have h0 := ih hx
    have e : 2 ^ (k + 1) = 2 * 2 ^ k := by rw [Nat.pow_succ]; omega
    have h1 : (x ||| 2 ^ (k + 1)) / 2 = x / 2 + 2 ^ k := by
      rw [Nat.or_div_two, e, Nat.mul_div_cancel_left _ (by omega)]; exact h0
    have h2 : (x ||| 2 ^ (k + 1)) % 2 = x % 2 := by
      have := Nat.or_mod_two_pow (a := x) (b := 2 ^ (k + 1)) (n := 1)
      simp only [Nat.pow_one] at this
      rw [this, e, Nat.mul_mod_right]
      simp
    omega

theorem withI_add {s k : Int} (h : IsSet s) (a : 0 ≤ k) (b : k < 64) (hk : hasB s k = false) : withI s k = s + oneI k := by
  rw [hasB_in a b] at hk
  unfold IsSet at h
  rw [withI, oneI, oneN_in a b, or_add hk]
  omega

theorem withoutI_same {s k : Int} (h : IsSet s) (hk : hasB s k = false) : withoutI s k = s := by
  have hs := toNat_lt h
  unfold IsSet at h
  have e : s.toNat &&& (18446744073709551615 - oneN k) = s.toNat := by
    apply Nat.eq_of_testBit_eq
    intro i
    by_cases hin : 0 ≤ k ∧ k < 64
    · obtain ⟨a, b⟩ := hin
      rw [hasB_in a b] at hk
      rw [oneN_in a b, Nat.testBit_and]
      have e2 : (18446744073709551615 - 2 ^ k.toNat).testBit i = (decide (i < 64) && !(2 ^ k.toNat).testBit i) := by
        have := Nat.testBit_two_pow_sub_succ (n := 64) (x := 2 ^ k.toNat) (pow_lt (by omega)) i
        simpa using this
      rw [e2, Nat.testBit_two_pow]
      by_cases hi : k.toNat = i
      · subst hi; simp [hk]
      · by_cases h64 : i < 64
        · simp [hi, h64]
        · have : s.toNat.testBit i = false := Nat.testBit_lt_two_pow (Nat.lt_of_lt_of_le hs (by
            have := Nat.pow_le_pow_right (n := 2) (by omega) (show 64 ≤ i by omega)
            simpa using this))
          simp [this]
    · have e2 : (18446744073709551615 : Nat).testBit i = decide (i < 64) := by
        have := Nat.testBit_two_pow_sub_one 64 i
        simpa using this
      simp only [oneN, hin, if_false, Nat.sub_zero, Nat.testBit_and, e2]
      by_cases h64 : i < 64
      · simp [h64]
      · have : s.toNat.testBit i = false := Nat.testBit_lt_two_pow (Nat.lt_of_lt_of_le hs (by
            have := Nat.pow_le_pow_right (n := 2) (by omega) (show 64 ≤ i by omega)
            simpa using this))
        simp [this]
  rw [withoutI, e]
  omega

theorem withoutI_sub {s k : Int} (h : IsSet s) (hk : hasB s k = true) : withoutI s k = s - oneI k ∧ oneI k ≤ s ∧ 0 ≤ k ∧ k < 64 := by
  by_cases hin : 0 ≤ k ∧ k < 64
  · obtain ⟨a, b⟩ := hin
    have h1 : withoutI (withoutI s k) k = withoutI s k := by
      apply withoutI_same (withoutI_isSet k h)
      rw [hasB_in a b]
      simp only [withoutI, Int.toNat_natCast, Nat.testBit_and]
      rw [oneN_in a b]
      have e2 := Nat.testBit_two_pow_sub_succ (n := 64) (x := 2 ^ k.toNat) (pow_lt (by omega)) k.toNat
      have e3 : (18446744073709551615 - 2 ^ k.toNat).testBit k.toNat = false := by
        have e4 : (2 ^ 64 - (2 ^ k.toNat + 1)) = 18446744073709551615 - 2 ^ k.toNat := by omega
        rw [e4] at e2
        rw [e2]; simp
      simp [e3]
    have h2 : withI (withoutI s k) k = s := by
      rw [hasB_in a b] at hk
      have hs := toNat_lt h
      unfold IsSet at h
      have e : (s.toNat &&& (18446744073709551615 - 2 ^ k.toNat)) ||| 2 ^ k.toNat = s.toNat := by
        apply Nat.eq_of_testBit_eq
        intro i
        have e2 := Nat.testBit_two_pow_sub_succ (n := 64) (x := 2 ^ k.toNat) (pow_lt (by omega)) i
        have e4 : (2 ^ 64 - (2 ^ k.toNat + 1)) = 18446744073709551615 - 2 ^ k.toNat := by omega
        rw [e4] at e2
        rw [Nat.testBit_or, Nat.testBit_and, e2, Nat.testBit_two_pow]
        by_cases hi : k.toNat = i
        · subst hi; simp [hk]
        · by_cases h64 : i < 64
          · simp [hi, h64]
          · have : s.toNat.testBit i = false := Nat.testBit_lt_two_pow (Nat.lt_of_lt_of_le hs (by
              have := Nat.pow_le_pow_right (n := 2) (by omega) (show 64 ≤ i by omega)
              simpa using this))
            simp [this, hi]
      rw [withI, withoutI, oneN_in a b]
      simp only [Int.toNat_natCast]
      rw [e]
      omega
    have h3 : hasB (withoutI s k) k = false := by
      cases hb : hasB (withoutI s k) k
      · rfl
      · exfalso
        have e5 := withI_same (withoutI_isSet k h) hb
        rw [h2] at e5
        rw [← e5] at h1
        have e6 : hasB (withoutI s k) k = false := by
          rw [hasB_in a b]
          simp only [withoutI, Int.toNat_natCast, Nat.testBit_and, oneN_in a b]
          have e2 := Nat.testBit_two_pow_sub_succ (n := 64) (x := 2 ^ k.toNat) (pow_lt (by omega)) k.toNat
          have e4 : (2 ^ 64 - (2 ^ k.toNat + 1)) = 18446744073709551615 - 2 ^ k.toNat := by omega
          rw [e4] at e2
          rw [e2]; simp
        rw [e6] at hb
        cases hb
    have h4 := withI_add (withoutI_isSet k h) a b h3
    have h5 := withoutI_isSet k h
    unfold IsSet at h5
    rw [h2] at h4
    omega
  · rw [hasB_out hin] at hk
    cases hk

theorem wrap_pow {k : Int} (a : 0 ≤ k) (b : k < 64) : IntKind.u64.wrap (2 ^ k.toNat) = oneI k := by
  have h := oneI_isSet k
  unfold IsSet top at h
  rw [oneI_in a b] at h
  rw [oneI_in a b, IntKind.wrap_u64, Int.emod_eq_of_lt h.1 h.2]

theorem oneI_out {k : Int} (h : ¬ (0 ≤ k ∧ k < 64)) : oneI k = 0 := by simp [oneI, oneN, h]

theorem wrap_dbl {j : Nat} (b : (j : Int) < 63) : IntKind.u64.wrap (oneI j * 2) = oneI ((j + 1 : Nat) : Int) := by
  have h := oneI_isSet ((j + 1 : Nat) : Int)
  have e : oneI ((j + 1 : Nat) : Int) = oneI j * 2 := by
    rw [oneI_in (by omega) (by omega), oneI_in (by omega) (by omega)]
    simp [Int.pow_succ]
  unfold IsSet top at h
  rw [e] at h
  rw [e, IntKind.wrap_u64, Int.emod_eq_of_lt h.1 h.2]

theorem div_isSet {s : Int} (h : IsSet s) (j : Nat) : IsSet (s / 2 ^ j) := by
  have hp : (0 : Int) < 2 ^ j := Int.pow_pos (by decide)
  have h0 : 0 ≤ s / 2 ^ j := Int.ediv_nonneg h.1 (by omega)
  have h1 : s / 2 ^ j ≤ s := Int.ediv_le_self _ h.1
  unfold IsSet at *
  omega

theorem wrap_half {s : Int} (h : IsSet s) (j : Nat) : IntKind.u64.wrap ((s / 2 ^ j).tdiv 2) = s / 2 ^ (j + 1) := by
  have h1 := div_isSet h j
  have h2 := div_isSet h (j + 1)
  rw [Int.tdiv_eq_ediv_of_nonneg h1.1, Int.ediv_ediv_of_nonneg (Int.pow_nonneg (by decide)), ← Int.pow_succ]
  unfold IsSet top at h2
  rw [IntKind.wrap_u64, Int.emod_eq_of_lt h2.1 h2.2]

theorem tmod_two {s : Int} (h : IsSet s) (j : Nat) : (s / 2 ^ j).tmod 2 = s / 2 ^ j % 2 :=
  Int.tmod_eq_emod_of_nonneg (div_isSet h j).1

theorem hasB_end {s k : Int} (h : IsSet s) (a : 0 ≤ k) (b : k < 64) {j : Nat} (hj : k = j) : ((s / 2 ^ j).tmod 2 == 1) = hasB s k := by
  subst hj
  rw [tmod_two h, ← hasB_div h a b]
  simp

theorem wrap_set {s : Int} (h : IsSet s) : IntKind.u64.wrap s = s := by
  unfold IsSet top at h
  rw [IntKind.wrap_u64, Int.emod_eq_of_lt h.1 h.2]

theorem wrap_with {s k : Int} (h : IsSet s) (a : 0 ≤ k) (b : k < 64) (hk : hasB s k = false) : IntKind.u64.wrap (s + oneI k) = withI s k := by
  rw [← withI_add h a b hk, wrap_set (withI_isSet k h)]

theorem wrap_without {s k : Int} (h : IsSet s) (hk : hasB s k = true) : IntKind.u64.wrap (s - oneI k) = withoutI s k := by
  rw [← (withoutI_sub h hk).1, wrap_set (withoutI_isSet k h)]

theorem zero_isSet : IsSet 0 := by unfold IsSet top; omega

theorem ofI_isSet (l : List Int) {s : Int} (h : IsSet s) : IsSet (l.foldl withI s) := by
  induction l generalizing s with
  | nil => exact h
  | cons x r ih => exact ih (withI_isSet x h)

theorem ofI_take {l : List Int} {k : Nat} (hk : k < l.length) : ofI (l.take (k + 1)) = withI (ofI (l.take k)) (l.getD k 0) := by
  unfold ofI
  rw [List.take_succ_eq_append_getElem hk, List.foldl_append]
  simp [List.getD_eq_getElem?_getD, hk]

theorem ofI_take_isSet (l : List Int) (k : Nat) : IsSet (ofI (l.take k)) := ofI_isSet _ zero_isSet

theorem fullI_succ {k : Nat} (h : k < 64) : withI (fullI k) k = fullI ((k + 1 : Nat) : Int) := by
  have hp : 0 < 2 ^ k := Nat.pow_pos (by omega)
  have e0 : fullI (k : Int) = ((2 ^ k - 1 : Nat) : Int) := by
    unfold fullI
    by_cases h0 : k = 0
    · subst h0; simp
    · rw [if_neg (by omega), if_neg (by omega)]; simp
  have hb : hasB (fullI k) k = false := by
    rw [hasB_in (by omega) (by omega), e0]
    simp only [Int.toNat_natCast]
    rw [Nat.testBit_two_pow_sub_one]
    simp
  have hs : IsSet (fullI k) := by
    have := pow_lt h
    rw [e0]
    unfold IsSet top
    omega
  rw [withI_add hs (by omega) (by omega) hb, oneI, oneN_in (by omega) (by omega), e0]
  have e1 : 2 ^ (k + 1) = 2 * 2 ^ k := by rw [Nat.pow_succ]; omega
  unfold fullI
  by_cases h63 : k = 63
  · subst h63; simp
  · rw [if_neg (by omega), if_neg (by omega)]
    simp only [Int.toNat_natCast, e1]
    omega

theorem fullI_isSet (n : Int) : IsSet (fullI n) := by
  unfold fullI IsSet top
  split
  · omega
  · split
    · omega
    · have : 2 ^ n.toNat < 18446744073709551616 := pow_lt (by omega)
      omega

theorem fullI_wrap {n : Int} (a : 1 ≤ n) (b : n < 64) : IntKind.u64.wrap (IntKind.u64.wrap (2 ^ n.toNat) - 1) = fullI n := by
  have h1 := fullI_isSet n
  have hp : 0 < 2 ^ n.toNat := Nat.pow_pos (by omega)
  have e : IntKind.u64.wrap (2 ^ n.toNat) - 1 = fullI n := by
    rw [wrap_pow (by omega) b, oneI, oneN_in (by omega) b]
    unfold fullI
    rw [if_neg (by omega), if_neg (by omega)]
    omega
  rw [e, wrap_set h1]

theorem fullI_end {n : Int} {k : Nat} (h1 : k ≤ 64) (h2 : k = 64 ∨ n ≤ k) (h3 : (k : Int) ≤ n ∨ k = 0) : fullI k = fullI n := by
  unfold fullI
  by_cases h0 : k = 0
  · subst h0
    rw [if_pos (by omega), if_pos (by omega)]
  · by_cases h64 : k = 64
    · subst h64
      rw [if_neg (by omega), if_pos (by omega), if_neg (by omega), if_pos (by omega)]
    · rw [show n = (k : Int) by omega]

end Go.Proofs.YtjmodcpeggafhaaDoor.SetsMath

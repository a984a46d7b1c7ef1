/-
  What GramAbove asks, of plain data.
-/
import Derived.Test.YtjcagdbepcjbiaaDoorGramName
import Derived.Deep.RegionHeld3
namespace Go.Proofs.YtjcagdbepcjbiaaDoor.GramAboveW
open Go.RowKit Go.Proofs.YtjcagdbepcjbiaaDoor.GramMath Go.Proofs.YtjcagdbepcjbiaaDoor.GramRow Go.Proofs.YtjcagdbepcjbiaaDoor.GramOne Go.Proofs.YtjcagdbepcjbiaaDoor.GramCheck Go.Proofs.YtjcagdbepcjbiaaDoor.GramAboveFn Go.Proofs.YtjcagdbepcjbiaaDoor.GramAwake Go.Proofs.YtjcagdbepcjbiaaDoor.GramName
set_option linter.unusedVariables false

theorem named_idx {ss : List ByteArray} {k : Nat} {x : ByteArray} (h : named ss = true) (hx : ss[k]? = some x) : idxN ss x = (k : Int) ∧ idxB ss x = true := by
  obtain ⟨hk, he⟩ := List.getElem?_eq_some_iff.1 hx
  have h1 := namedTo_at h hk
  unfold nameAt at h1
  rw [hx] at h1
  simp only [Bool.and_eq_true, decide_eq_true_eq, Bool.not_eq_true'] at h1
  have h2 : idx ss x = (k : Int) := idx_hit hx (fun j hj hc => by
    have : memB x (ss.take k) = true := by
      rw [memB_iff]
      obtain ⟨h3, h4⟩ := List.getElem?_eq_some_iff.1 hc
      exact List.mem_take_iff_getElem.2 ⟨j, by omega, h4⟩
    rw [this] at h1
    cases h1.2)
  unfold idxN idxB
  rw [h2, if_neg (by omega), decide_eq_true (by omega)]
  exact ⟨rfl, rfl⟩

theorem name_term {g : G} {k : Nat} {x : ByteArray} (hx : g.ts[k]? = some x) : nameS g (k : Int) = x ∧ nameB g (k : Int) = true := by
  obtain ⟨hk, he⟩ := List.getElem?_eq_some_iff.1 hx
  have hl : leftB g.ts.length (k : Int) = true := by simp [leftB]; omega
  unfold nameS nameB
  rw [if_pos hl, hl, Int.toNat_natCast, List.getD_eq_getElem?_getD, hx]
  exact ⟨rfl, rfl⟩

theorem name_nonterm {g : G} {k : Nat} {x : ByteArray} (hx : g.ns[k]? = some x) : nameS g (-1 - (k : Int)) = x ∧ nameB g (-1 - (k : Int)) = true := by
  obtain ⟨hk, he⟩ := List.getElem?_eq_some_iff.1 hx
  have hl : leftB g.ts.length (-1 - (k : Int)) = false := by simp [leftB]; omega
  have hm : leftB g.ns.length (-1 - (-1 - (k : Int))) = true := by simp [leftB]; omega
  unfold nameS nameB
  rw [if_neg (by rw [hl]; decide), if_pos hm, hl, hm, show -1 - (-1 - (k : Int)) = (k : Int) by omega, Int.toNat_natCast, List.getD_eq_getElem?_getD, hx]
  exact ⟨rfl, rfl⟩

theorem shift_zero {v n : Nat} (h : v < 2 ^ n) : (v : Int) / 2 ^ n = 0 := by
  have e : (v : Int) / 2 ^ n = ((v / 2 ^ n : Nat) : Int) := by simp
  rw [e, Nat.div_eq_of_lt h]
  rfl

theorem andNot_zero {g : G} (hg : GoodG g) {V : Nat → Nat} (hV : IsAbove g V) {i k : Nat} (hi : i < g.ns.length) (hk : k < g.ns.length) (hb : (V i).testBit k = true) : bits .andNot .u64 (V k : Int) (V i : Int) = 0 := by
  have h1 := above_small hg hV hi
  have h2 := above_small hg hV hk
  rw [u64_andNot_nat _ _ (by omega) (by omega)]
  have : V k &&& (18446744073709551615 - V i) = 0 := by
    apply Nat.eq_of_testBit_eq
    intro j
    rw [Nat.testBit_and, Nat.zero_testBit]
    cases hj : (V k).testBit j with
    | false => rfl
    | true =>
      have hc := ((hV k hk).2 j).1 hj
      have hc2 := ((hV i hi).2 j).2 (hc.trans (((hV i hi).2 k).1 hb))
      rw [Bool.true_and]
      have e : 18446744073709551615 - V i = 2 ^ 64 - (V i + 1) := by have : 2 ^ 64 = 18446744073709551616 := by decide
                                                                     omega
      rw [e, Nat.testBit_two_pow_sub_succ (by have : 2 ^ 64 = 18446744073709551616 := by decide
                                              omega), hc2]
      simp
  rw [this]
  rfl

theorem ren_ex {g : G} {V : Nat → Nat} (hV : IsAbove g V) {i k : Nat} (hi : i < g.ns.length) (hne : i ≠ k) (hb : (V i).testBit k = true) : ∃ m, Ren g k m ∧ (V i).testBit m = true := by
  have hc := ((hV i hi).2 k).1 hb
  cases hc with
  | refl _ => exact absurd rfl hne
  | step h1 h2 => exact ⟨_, h1, ((hV i hi).2 _).2 h2⟩

end Go.Proofs.YtjcagdbepcjbiaaDoor.GramAboveW

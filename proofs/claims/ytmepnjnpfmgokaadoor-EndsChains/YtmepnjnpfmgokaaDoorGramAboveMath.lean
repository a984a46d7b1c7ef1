/-
  Which nonterminals come to which: sets that are handed on by renamings till nothing is new. No part of the program.
-/
import Derived.Test.YtmepnjnpfmgokaaDoorGramMath
namespace Go.Proofs.YtmepnjnpfmgokaaDoor.GramMath

def upd (V : Nat → Nat) (t x : Nat) : Nat → Nat := fun i => if i = t then x else V i

theorem upd_at (V : Nat → Nat) (t x : Nat) : upd V t x t = x := if_pos rfl
theorem upd_ne (V : Nat → Nat) {t i : Nat} (x : Nat) (h : i ≠ t) : upd V t x i = V i := if_neg h

def sumV (V : Nat → Nat) : Nat → Nat
  | 0 => 0
  | n + 1 => sumV V n + V n

theorem sumV_congr {V U : Nat → Nat} : ∀ {n : Nat}, (∀ i, i < n → V i = U i) → sumV V n = sumV U n
  | 0, _ => rfl
  | n + 1, h => by
    show sumV V n + V n = sumV U n + U n
    rw [sumV_congr (fun i hi => h i (by omega)), h n (by omega)]

theorem sumV_le {V U : Nat → Nat} : ∀ {n : Nat}, (∀ i, i < n → V i ≤ U i) → sumV V n ≤ sumV U n
  | 0, _ => Nat.le_refl _
  | n + 1, h => Nat.add_le_add (sumV_le fun i hi => h i (by omega)) (h n (by omega))

theorem sumV_lt {V U : Nat → Nat} : ∀ {n : Nat}, (∀ i, i < n → V i ≤ U i) → (∃ t, t < n ∧ V t < U t) → sumV V n < sumV U n
  | 0, _, ⟨t, ht, _⟩ => absurd ht (by omega)
  | n + 1, h, ⟨t, ht, hl⟩ => by
    by_cases e : t = n
    · subst e
      exact Nat.add_lt_add_of_le_of_lt (sumV_le fun i hi => h i (by omega)) hl
    · exact Nat.add_lt_add_of_lt_of_le (sumV_lt (fun i hi => h i (by omega)) ⟨t, by omega, hl⟩) (h n (by omega))

theorem sumV_bound {V : Nat → Nat} {M : Nat} : ∀ {n : Nat}, (∀ i, i < n → V i ≤ M) → sumV V n ≤ n * M
  | 0, _ => by simp [sumV]
  | n + 1, h => by
    have := sumV_bound (n := n) fun i hi => h i (by omega)
    have h2 := h n (by omega)
    show sumV V n + V n ≤ _
    rw [Nat.succ_mul]
    omega

/-- A renaming of one to the other. -/
def Ren (g : G) (a b : Nat) : Prop := ∃ r, r ∈ g.rs ∧ renB r = true ∧ r.left = (a : Int) ∧ renN r = (b : Int)

/-- One comes to the other. -/
inductive Comes (g : G) : Nat → Nat → Prop
  | refl (a : Nat) : Comes g a a
  | step {a m b : Nat} (h : Ren g a m) (k : Comes g m b) : Comes g a b

theorem Comes.trans {g : G} {a b c : Nat} (h : Comes g a b) (k : Comes g b c) : Comes g a c := by
  induction h with
  | refl _ => exact k
  | step h1 _ ih => exact .step h1 (ih k)

theorem Comes.snoc {g : G} {a b c : Nat} (h : Comes g a b) (k : Ren g b c) : Comes g a c := h.trans (.step k (.refl _))

theorem ren_lt {g : G} (hg : GoodG g) {a b : Nat} (h : Ren g a b) : a < g.ns.length ∧ b < g.ns.length := by
  obtain ⟨r, hr, hb, hl, hn⟩ := h
  obtain ⟨_, h2, h3, h4⟩ := ruleK_ok (hg.each r hr)
  obtain ⟨x, hx, hx0, hxn⟩ := ren_true hb
  have := h4 x (by rw [hx]; simp)
  omega

theorem comes_lt {g : G} (hg : GoodG g) {a b : Nat} (h : Comes g a b) (hb : b < g.ns.length) : a < g.ns.length := by
  cases h with
  | refl _ => exact hb
  | step h1 _ => exact (ren_lt hg h1).1

/-- What holds of the sets all along. -/
def Inv (g : G) (V : Nat → Nat) : Prop := ∀ i, i < g.ns.length → V i < 2 ^ g.ns.length ∧ (V i).testBit i = true ∧ ∀ k, (V i).testBit k = true → Comes g k i

/-- Nothing is new by a rule. -/
def Shut (V : Nat → Nat) (r : R) : Prop := renB r = true → V (renN r).toNat ||| V r.left.toNat = V (renN r).toNat

/-- The sets that the document asks for. -/
def IsAbove (g : G) (V : Nat → Nat) : Prop := ∀ i, i < g.ns.length → V i < 2 ^ g.ns.length ∧ ∀ k, (V i).testBit k = true ↔ Comes g k i

theorem inv_step {g : G} (hg : GoodG g) {V : Nat → Nat} (hV : Inv g V) {r : R} (hr : r ∈ g.rs) (hb : renB r = true) : Inv g (upd V (renN r).toNat (V (renN r).toNat ||| V r.left.toNat)) := by
  obtain ⟨_, h2, h3, h4⟩ := ruleK_ok (hg.each r hr)
  obtain ⟨x, hx, hx0, hxn⟩ := ren_true hb
  have h5 := h4 x (by rw [hx]; simp)
  have hren : Ren g r.left.toNat (renN r).toNat := ⟨r, hr, hb, by omega, by omega⟩
  have ht : (renN r).toNat < g.ns.length := by omega
  have hl : r.left.toNat < g.ns.length := by omega
  intro i hi
  by_cases e : i = (renN r).toNat
  · subst e
    rw [upd_at]
    refine ⟨Nat.or_lt_two_pow (hV _ ht).1 (hV _ hl).1, by rw [Nat.testBit_or, (hV _ ht).2.1]; rfl, fun k hk => ?_⟩
    rw [Nat.testBit_or, Bool.or_eq_true] at hk
    rcases hk with hk | hk
    · exact (hV _ ht).2.2 k hk
    · exact ((hV _ hl).2.2 k hk).snoc hren
  · rw [upd_ne _ _ e]
    exact hV i hi

theorem or_ge (a b : Nat) : a ≤ a ||| b := Nat.left_le_or

theorem shut_above {g : G} (hg : GoodG g) {V : Nat → Nat} (hV : Inv g V) (hs : ∀ r ∈ g.rs, Shut V r) : IsAbove g V := by
  have key : ∀ {a b : Nat}, Comes g a b → b < g.ns.length → ∀ k, (V a).testBit k = true → (V b).testBit k = true := by
    intro a b h
    induction h with
    | refl _ => intro _ k hk; exact hk
    | step h1 h2 ih =>
      intro hb k hk
      obtain ⟨r, hr, hrb, hl, hn⟩ := h1
      have := hs r hr hrb
      rw [hl, hn] at this
      simp only [Int.toNat_natCast] at this
      refine ih hb k ?_
      rw [← this, Nat.testBit_or, hk]
      simp
  intro i hi
  refine ⟨(hV i hi).1, fun k => ⟨(hV i hi).2.2 k, fun h => ?_⟩⟩
  exact key h hi k (hV k (comes_lt hg h hi)).2.1

theorem start_inv (g : G) : Inv g (fun i => 2 ^ i) := by
  intro i hi
  refine ⟨Nat.pow_lt_pow_right (by omega) hi, by simp, fun k hk => ?_⟩
  rw [Nat.testBit_two_pow] at hk
  obtain rfl : i = k := by simpa using hk
  exact .refl _

theorem inv_small {g : G} (hg : GoodG g) {V : Nat → Nat} (hV : Inv g V) {i : Nat} (hi : i < g.ns.length) : V i < 1152921504606846976 := by
  have h1 := (hV i hi).1
  have h2 : g.ns.length ≤ 60 := by have := hg.few; omega
  have h3 : 2 ^ g.ns.length ≤ 2 ^ 60 := Nat.pow_le_pow_right (by omega) h2
  have h4 : 2 ^ 60 = 1152921504606846976 := by decide
  omega

theorem above_small {g : G} (hg : GoodG g) {V : Nat → Nat} (hV : IsAbove g V) {i : Nat} (hi : i < g.ns.length) : V i < 1152921504606846976 := by
  have h1 := (hV i hi).1
  have h2 : g.ns.length ≤ 60 := by have := hg.few; omega
  have h3 : 2 ^ g.ns.length ≤ 2 ^ 60 := Nat.pow_le_pow_right (by omega) h2
  have h4 : 2 ^ 60 = 1152921504606846976 := by decide
  omega

end Go.Proofs.YtmepnjnpfmgokaaDoor.GramMath

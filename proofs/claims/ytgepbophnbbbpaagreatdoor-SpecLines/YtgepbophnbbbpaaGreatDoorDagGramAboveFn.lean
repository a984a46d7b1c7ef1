/-
  Texts that stand together: GramAboveFn, GramAwakes.
-/
import Derived.Test.YtgepbophnbbbpaaGreatDoorDGramBase
import Derived.Test.YtgepbophnbbbpaaGreatDoorDBaseMath
import Derived.Laws.BitsAllLaws
import Derived.Laws.OwnMore
namespace Go.Proofs.YtgepbophnbbbpaaGreatDoor.GramAboveFn
open Go.RowKit Go.Proofs.YtgepbophnbbbpaaGreatDoor.GramMath Go.Proofs.YtgepbophnbbbpaaGreatDoor.GramRow Go.Proofs.YtgepbophnbbbpaaGreatDoor.GramOne Go.Proofs.YtgepbophnbbbpaaGreatDoor.GramCheck
set_option linter.unusedVariables false

/-- Sets in a row of their own. -/
def VRow (w : World) (b n : Nat) (V : Nat → Nat) : Prop := ∀ i, i < n → w.cell? ⟨b, i, none⟩ = some (.int .u64 (V i : Int)) ∧ w.frozen? ⟨b, i, none⟩ = false

theorem VRow.below {w w' : World} {b n B : Nat} {V : Nat → Nat} (h : VRow w b n V) (hb : Below B w w') (hB : b < B) : VRow w' b n V := fun i hi =>
  ⟨(hb.cell (p := ⟨b, i, none⟩) hB).trans (h i hi).1, (hb.frozen (p := ⟨b, i, none⟩) hB).trans (h i hi).2⟩

theorem VRow.congr {w : World} {b n : Nat} {V U : Nat → Nat} (h : VRow w b n V) (e : ∀ i, i < n → V i = U i) : VRow w b n U := fun i hi => by rw [← e i hi]; exact h i hi

theorem VRow.set {w : World} {b n t x : Nat} {V : Nat → Nat} (h : VRow w b n V) (ht : t < n) : VRow (w.setCell ⟨b, t, none⟩ (.int .u64 (x : Int))) b n (upd V t x) := fun i hi => by
  refine ⟨?_, by rw [World.frozen?_setCell]; exact (h i hi).2⟩
  by_cases e : i = t
  · subst e
    rw [upd_at]
    exact World.cell?_setCell_same (h := (h i hi).1) ..
  · rw [upd_ne _ _ e, World.cell?_setCell_other (h := show (⟨b, t, none⟩ : Addr) ≠ ⟨b, i, none⟩ from fun h => e (by cases h; rfl))]
    exact (h i hi).1

theorem wrap_pow {k : Nat} (h : k < 60) : IntKind.u64.wrap (2 ^ k) = ((2 ^ k : Nat) : Int) := by
  have h1 : 2 ^ k < 2 ^ 60 := Nat.pow_lt_pow_right (by omega) h
  have h2 : 2 ^ 60 = 1152921504606846976 := by decide
  have h3 : ((2 ^ k : Nat) : Int) = (2 : Int) ^ k := by simp
  rw [← h3, IntKind.wrap_u64]
  generalize 2 ^ k = y at *
  omega

def cellN (w : World) (b i : Nat) : Nat :=
  match w.cell? ⟨b, i, none⟩ with
  | some (.int _ z) => z.toNat
  | _ => 0

end Go.Proofs.YtgepbophnbbbpaaGreatDoor.GramAboveFn

namespace Go.Proofs.YtgepbophnbbbpaaGreatDoor.GramAwake
open Go.RowKit Go.Proofs.YtgepbophnbbbpaaGreatDoor.GramMath Go.Proofs.YtgepbophnbbbpaaGreatDoor.GramRow Go.Proofs.YtgepbophnbbbpaaGreatDoor.GramOne Go.Proofs.YtgepbophnbbbpaaGreatDoor.GramCheck Go.Proofs.YtgepbophnbbbpaaGreatDoor.GramAboveFn
set_option linter.unusedVariables false

def givenG : G := ⟨[⟨#[43]⟩, ⟨#[105]⟩], [⟨#[69]⟩], 0, [⟨0, [-1, 0, -1]⟩, ⟨0, [1]⟩]⟩
def chainG : G := ⟨[⟨#[116]⟩], [⟨#[65]⟩, ⟨#[66]⟩, ⟨#[67]⟩], 0, [⟨0, [-2]⟩, ⟨1, [-3]⟩, ⟨2, [0]⟩]⟩

/-- Sets in a row. -/
def URow (w : World) (a : Option Addr) (n : Nat) (V : Nat → Nat) : Prop := ∀ i, i < n → ∃ b off, a = some ⟨b, off, none⟩ ∧ w.cell? ⟨b, off + i, none⟩ = some (.int .u64 (V i : Int))

theorem URow.below {w w' : World} {a : Option Addr} {n B : Nat} {V : Nat → Nat} (h : URow w a n V) (hb : Below B w w') (hB : w.heap.size ≤ B) : URow w' a n V := fun i hi => by
  obtain ⟨b, off, ha, hc⟩ := h i hi
  exact ⟨b, off, ha, by rw [hb.cell (Nat.lt_of_lt_of_le (cell_lt hc) hB)]; exact hc⟩

def chainV : Nat → Nat
  | 0 => 1
  | 1 => 3
  | 2 => 7
  | _ => 0

end Go.Proofs.YtgepbophnbbbpaaGreatDoor.GramAwake

namespace Go.Proofs.YtgepbophnbbbpaaGreatDoor.GramAwake
open Go.RowKit Go.Proofs.YtgepbophnbbbpaaGreatDoor.GramMath Go.Proofs.YtgepbophnbbbpaaGreatDoor.GramRow Go.Proofs.YtgepbophnbbbpaaGreatDoor.GramOne Go.Proofs.YtgepbophnbbbpaaGreatDoor.GramCheck Go.Proofs.YtgepbophnbbbpaaGreatDoor.GramAboveFn
set_option linter.unusedVariables false

end Go.Proofs.YtgepbophnbbbpaaGreatDoor.GramAwake

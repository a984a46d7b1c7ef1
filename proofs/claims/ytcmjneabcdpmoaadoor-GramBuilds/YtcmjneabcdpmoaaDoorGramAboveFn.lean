/-
  Above: the program's sets, for every grammar that may be; no sets for the others.
-/
import Derived.Test.YtcmjneabcdpmoaaDoorGramBase
import Derived.Test.YtcmjneabcdpmoaaDoorBaseMath
import Derived.Laws.BitsAllLaws
import Derived.Laws.OwnMore
namespace Go.Proofs.YtcmjneabcdpmoaaDoor.GramAboveFn
open Go.RowKit Go.Proofs.YtcmjneabcdpmoaaDoor.GramMath Go.Proofs.YtcmjneabcdpmoaaDoor.GramRow Go.Proofs.YtcmjneabcdpmoaaDoor.GramOne Go.Proofs.YtcmjneabcdpmoaaDoor.GramCheck
set_option linter.unusedVariables false

/-- Sets in a row of their own. -/
def VRow (w : World) (b n : Nat) (V : Nat → Nat) : Prop := ∀ i, i < n → w.cell? ⟨b, i, none⟩ = some (.int .u64 (V i : Int)) ∧ w.frozen? ⟨b, i, none⟩ = false

theorem VRow.below {w w' : World} {b n B : Nat} {V : Nat → Nat} (h : VRow w b n V) (hb : Below B w w') (hB : b < B) : VRow w' b n V := fun i hi =>
  ⟨(hb.cell (p := ⟨b, i, none⟩) hB).trans (h i hi).1, (hb.frozen (p := ⟨b, i, none⟩) hB).trans (h i hi).2⟩

theorem VRow.congr {w : World} {b n : Nat} {V U : Nat → Nat} (h : VRow w b n V) (e : ∀ i, i < n → V i = U i) : VRow w b n U := fun i hi => by rw [← e i hi]; exact h i hi

theorem VRow.set {w : World} {b n t x : Nat} {V : Nat → Nat} (h : VRow w b n V) (ht : t < n) : VRow (w.setCell ⟨b, t, none⟩ (.int .u64 (x : Int))) b n (upd V t x) := fun i hi => by
  refine ⟨?_, by rw [World.frozen?_setCell]; exact (h i hi).2⟩
  by_cases e : i = t
  · subst e
    rw [upd_at]
    exact World.cell?_setCell_same (h := (h i hi).1) ..
  · rw [upd_ne _ _ e, World.cell?_setCell_other (h := show (⟨b, t, none⟩ : Addr) ≠ ⟨b, i, none⟩ from fun h => e (by cases h; rfl))]
    exact (h i hi).1

theorem wrap_pow {k : Nat} (h : k < 60) : IntKind.u64.wrap (2 ^ k) = ((2 ^ k : Nat) : Int) := by
  have h1 : 2 ^ k < 2 ^ 60 := Nat.pow_lt_pow_right (by omega) h
  have h2 : 2 ^ 60 = 1152921504606846976 := by decide
  have h3 : ((2 ^ k : Nat) : Int) = (2 : Int) ^ k := by simp
  rw [← h3, IntKind.wrap_u64]
  generalize 2 ^ k = y at *
  omega

def cellN (w : World) (b i : Nat) : Nat :=
  match w.cell? ⟨b, i, none⟩ with
  | some (.int _ z) => z.toNat
  | _ => 0

theorem cellN_row {w : World} {b n : Nat} {V : Nat → Nat} (h : VRow w b n V) (i : Nat) (hi : i < n) : cellN w b i = V i := by
  unfold cellN
  rw [(h i hi).1]
  simp

end Go.Proofs.YtcmjneabcdpmoaaDoor.GramAboveFn

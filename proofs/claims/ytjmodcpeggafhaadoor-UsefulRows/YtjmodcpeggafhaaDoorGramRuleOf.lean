/-
  The rule that an error tells: what kit.Rule tells of the errors of this program; what kit.Kind tells of what Check answers.
-/
import Derived.Test.YtjmodcpeggafhaaDoorGramKind
namespace Go.Proofs.YtjmodcpeggafhaaDoor.GramErrs
open Go.RowKit Go.Extern.Stop Go.Stop Go.Extern Go.Proofs.YtjmodcpeggafhaaDoor.GramMath Go.Proofs.YtjmodcpeggafhaaDoor.GramRow
set_option linter.unusedVariables false

/-- The rule that a finding names; -1: none. -/
def ruleZ (z : Nat × Option Nat) : Int :=
  match z with
  | (_ + 1, some i) => (i : Int)
  | _ => -1

set_option maxRecDepth 100000 in
theorem kind_ck (base : Nat) (p : Nat → Addr) (z : Nat × Option Nat) (w : World) (v : Value) (hE : Errs w p) (hz : z.1 ≤ 15) (hv : CkV base p z w v) : Calls Tryd.prog 14 #[v] w fun e w' => e = .returned (.int .i64 (z.1 : Int)) ∧ Below w.heap.size w w' := by
  match z, hz, hv with
  | (0, x), _, hv =>
    obtain rfl : v = .nilIface := hv
    refine (kind_nil w).mono ?_
    rintro e w1 ⟨rfl, hw1⟩
    obtain rfl := hw1.symm
    exact ⟨rfl, Below.refl _ _⟩
  | (k + 1, none), hz, hv =>
    obtain rfl : v = .iface 157 (.pointer (some (p (k + 1)))) := hv
    refine (kind_of 157 (.pointer (some (p (k + 1)))) k (fun k => p (k + 1)) w (by omega) hE.old ?_).mono ?_
    · intro W b hB hb
      by_cases he : p (k + 1) = b
      · subst he
        simpa using is_same (p (k + 1)) W
      · simpa [he] using is_other (p (k + 1)) b W he ((hE.1 k (by omega)).2.below hB (Nat.le_refl _)) hb
    · rintro e w1 ⟨rfl, hb1⟩
      exact ⟨ret_num (by simp), hb1⟩
  | (k + 1, some i), hz, ⟨blk, _, hv, hblk⟩ =>
    subst hv
    refine (kind_of 92 (.pointer (some ⟨blk, 0, none⟩)) k (fun k => p (k + 1)) w (by omega) hE.old ?_).mono ?_
    · intro W b hB hb
      have hblk2 := (hB.block blk (Array.getElem?_eq_some_iff.1 hblk).1).trans hblk
      by_cases he : p (k + 1) = b
      · subst he
        simpa using is_place_same blk _ (p (k + 1)) W hblk2
      · simpa [he] using is_place_other blk _ (p (k + 1)) b W hblk2 he ((hE.1 k (by omega)).2.below hB (Nat.le_refl _)) hb
    · rintro e w1 ⟨rfl, hb1⟩
      exact ⟨ret_num (by simp), hb1⟩

end Go.Proofs.YtjmodcpeggafhaaDoor.GramErrs

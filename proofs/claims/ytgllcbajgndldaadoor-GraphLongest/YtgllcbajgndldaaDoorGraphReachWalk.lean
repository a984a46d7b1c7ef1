/-
  The walk of GraphReach: it answers true for every graph and all nodes, and writes nothing that was there.
-/
import Derived.Test.YtgllcbajgndldaaDoorGraphRReach
import Derived.Test.YtgllcbajgndldaaDoorGraphOpen
import Derived.Test.YtgllcbajgndldaaDoorGramKinds
namespace Go.Proofs.YtgllcbajgndldaaDoor.GraphReachW
open Go.RowKit Go.Proofs.YtgllcbajgndldaaDoor.GramMath Go.Proofs.YtgllcbajgndldaaDoor.GramRow Go.Proofs.YtgllcbajgndldaaDoor.GramApart Go.Proofs.YtgllcbajgndldaaDoor.GramLent Go.Proofs.YtgllcbajgndldaaDoor.OpRow Go.Proofs.YtgllcbajgndldaaDoor.GraphNet Go.Proofs.YtgllcbajgndldaaDoor.GraphMath Go.Proofs.YtgllcbajgndldaaDoor.GraphFn Go.Proofs.YtgllcbajgndldaaDoor.GraphSort Go.Proofs.YtgllcbajgndldaaDoor.GraphRef Go.Proofs.YtgllcbajgndldaaDoor.GraphLent Go.Proofs.YtgllcbajgndldaaDoor.GramErrs Go.Proofs.YtgllcbajgndldaaDoor.GramSame
set_option linter.unusedVariables false
set_option linter.unusedSimpArgs false

theorem kind_e (p : Nat → Addr) (k : Nat) (w : World) (hE : Errs w p) (hk : k ≤ 15) : Calls Tryd.prog 10 #[ckK p k] w fun e w' => e = .returned (.int .i64 (k : Int)) ∧ Below w.heap.size w w' := by
  match k, hk with
  | 0, _ =>
    refine (kind_nil w).mono ?_
    rintro e w1 ⟨rfl, hw1⟩
    obtain rfl := hw1.symm
    exact ⟨rfl, Below.refl _ _⟩
  | k + 1, hk =>
    show Calls Tryd.prog 10 #[.iface 122 (.pointer (some (p (k + 1))))] w _
    refine (kind_of 122 (.pointer (some (p (k + 1)))) k (fun k => p (k + 1)) w (by omega) hE.old ?_).mono ?_
    · intro W b hB hb
      by_cases he : p (k + 1) = b
      · subst he
        simpa using is_same (p (k + 1)) W
      · simpa [he] using is_other (p (k + 1)) b W he ((hE.1 k (by omega)).2.below hB (Nat.le_refl _)) hb
    · rintro e w1 ⟨rfl, hb1⟩
      exact ⟨ret_num (by simp), hb1⟩

theorem mayE_le (n : Int) (es : List (Int × Int)) : mayE n es ≤ 12 := by
  unfold mayE
  split
  · omega
  split
  · omega
  split <;> omega
theorem reachC_le (n : Int) (es : List (Int × Int)) (fr : List Int) : reachC n es fr ≤ 12 := by
  have := mayE_le n es
  unfold reachC
  split
  · exact this
  split <;> omega
theorem reachL_len (n : Int) (es : List (Int × Int)) (fr : List Int) : (reachL n es fr).length ≤ 256 := by
  unfold reachL
  split
  · next h =>
    have h0 : mayE n es = 0 := by
      unfold reachC at h
      split at h
      · next h2 => exact absurd h h2
      · next h2 => simpa using h2
    obtain ⟨m, rfl, hm, _⟩ := mayE_zero h0
    rw [ints_length, Int.toNat_natCast]
    have := reach_len m (toE es) (fr.map Int.toNat)
    omega
  · simp

end Go.Proofs.YtgllcbajgndldaaDoor.GraphReachW

/-
  The walk of GramLess, whether the grammar's rules come as a nil slice or not.
-/
import Derived.Test.YtjcagdbepcjbiabDoorGramLessWalk2
namespace Go.Proofs.YtjcagdbepcjbiabDoor.GramLessW
open Go.RowKit Go.Proofs.YtjcagdbepcjbiabDoor.GramMath Go.Proofs.YtjcagdbepcjbiabDoor.GramRow Go.Proofs.YtjcagdbepcjbiabDoor.GramOne Go.Proofs.YtjcagdbepcjbiabDoor.GramCheck Go.Proofs.YtjcagdbepcjbiabDoor.GramAwake Go.Proofs.YtjcagdbepcjbiabDoor.GramErrs Go.Proofs.YtjcagdbepcjbiabDoor.GramLess
set_option linter.unusedVariables false

theorem walk (ta na qa ra : Option Addr) (tc nc rc qc : Nat) (g : G) (at' : Int) (bad : R) (p : Nat → Addr) (w : World) (hG : GRow w ta na ra g) (ho : okG g) (htc : g.ts.length ≤ tc) (hnc : g.ns.length ≤ nc) (hrc : g.rs.length ≤ rc) (hnil : ra = none → g.rs.length = 0 ∧ rc = 0) (hat : I64 at') (hbad : IRow w qa bad.right) (hbo : okR bad) (hE : Errs w p) (hT : ErrType w) :
    Calls Tryd.prog 3 #[.agg #[.slice ta g.ts.length tc, .slice na g.ns.length nc, .int .i64 g.ax, .slice ra g.rs.length rc], .int .i64 at', .agg #[.int .i64 bad.left, .slice qa bad.right.length qc]] w fun e w' => e = .returned (.bool true) ∧ Below w.heap.size w w' := by
  cases ra with
  | some ra => exact walk_some ta na qa ra tc nc rc qc g at' bad p w hG ho htc hnc hrc hat hbad hbo hE hT
  | none =>
    obtain ⟨h0, rfl⟩ := hnil rfl
    obtain ⟨ts, ns, ax, rs⟩ := g
    obtain rfl : rs = [] := List.length_eq_zero_iff.1 h0
    exact walk_none ta na qa tc nc qc ts ns ax at' bad p w hG ho htc hnc hat hbad hbo hE hT

end Go.Proofs.YtjcagdbepcjbiabDoor.GramLessW

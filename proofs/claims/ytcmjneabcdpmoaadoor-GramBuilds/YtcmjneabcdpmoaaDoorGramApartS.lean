/-
  The helper that writes into lists of sets, goes on with them and looks at all again: it answers true for lists that lie apart and have no room to spare.
-/
import Derived.Test.YtcmjneabcdpmoaaDoorGramApart0
import Derived.Test.YtcmjneabcdpmoaaDoorGramAboveFn
namespace Go.Proofs.YtcmjneabcdpmoaaDoor.GramApart
open Go.RowKit Go.Proofs.YtcmjneabcdpmoaaDoor.GramMath Go.Proofs.YtcmjneabcdpmoaaDoor.GramRow Go.Proofs.YtcmjneabcdpmoaaDoor.GramAboveFn
set_option linter.unusedVariables false

theorem wrapU {z : Int} (h0 : 0 ≤ z) (h1 : z < 9223372036854775808) : IntKind.u64.wrap z = z := by rw [IntKind.wrap_u64]; omega
theorem wrapI {z : Int} (h0 : 0 ≤ z) (h1 : z < 9223372036854775808) : IntKind.i64.wrap z = z := by rw [IntKind.wrap_i64]; omega

theorem at_some {g N : Nat → Nat} {j : Nat} {a : Option Addr} (h : at' g N j a) (hN : 0 < N j) : a = some ⟨g j, 0, none⟩ := by
  cases a with
  | none => exact absurd (show N j = 0 from h) (by omega)
  | some x => rw [show x = ⟨g j, 0, none⟩ from h]
theorem at_none {g N : Nat → Nat} {j : Nat} {a : Option Addr} (h : at' g N j a) (ha : a = none) : N j = 0 ∧ N j = 0 := by
  subst ha
  exact ⟨h, h⟩
theorem at_is {g N : Nat → Nat} {j : Nat} {a : Option Addr} {b : Addr} (h : at' g N j a) (ha : a = some b) : b = ⟨g j, 0, none⟩ := by
  subst ha
  exact h

end Go.Proofs.YtcmjneabcdpmoaaDoor.GramApart

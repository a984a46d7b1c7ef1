/-
  Texts that stand together: GramKinds.
-/
import Derived.Test.YtigepihinflkdaaGreatDoorBGramErrs
import Derived.LaidEql
import Derived.Stop.Asserts
import Derived.RowKitTokens
namespace Go.Proofs.YtigepihinflkdaaGreatDoor.GramErrs
open Go.RowKit Go.Extern.Stop Go.Stop Go.Extern Go.Proofs.YtigepihinflkdaaGreatDoor.GramMath Go.Proofs.YtigepihinflkdaaGreatDoor.GramRow

end Go.Proofs.YtigepihinflkdaaGreatDoor.GramErrs

namespace Go.Proofs.YtigepihinflkdaaGreatDoor.GramErrs
open Go.RowKit Go.Extern.Stop Go.Stop Go.Extern Go.Proofs.YtigepihinflkdaaGreatDoor.GramMath Go.Proofs.YtigepihinflkdaaGreatDoor.GramRow

end Go.Proofs.YtigepihinflkdaaGreatDoor.GramErrs

namespace Go.Proofs.YtigepihinflkdaaGreatDoor.GramErrs
open Go.RowKit Go.Proofs.YtigepihinflkdaaGreatDoor.GramMath Go.Proofs.YtigepihinflkdaaGreatDoor.GramRow

def ErrsO (w : World) (p : Nat → Addr) : Prop := (∀ k, k < 15 → Sent w (globN.getD k 0) (p k) ∧ Row0 w (p k)) ∧ ∀ i j, i < 15 → j < 15 → p i = p j → i = j
/-- The list that Kind goes over. -/
def errL (p : Nat → Addr) : Array Value := #[.iface 245 (.pointer (some (p 0))), .iface 245 (.pointer (some (p 1))), .iface 245 (.pointer (some (p 2))), .iface 245 (.pointer (some (p 3))), .iface 245 (.pointer (some (p 4))), .iface 245 (.pointer (some (p 5))), .iface 245 (.pointer (some (p 6))), .iface 245 (.pointer (some (p 7))), .iface 245 (.pointer (some (p 8))), .iface 245 (.pointer (some (p 9))), .iface 245 (.pointer (some (p 10))), .iface 245 (.pointer (some (p 11))), .iface 245 (.pointer (some (p 12))), .iface 245 (.pointer (some (p 13))), .iface 245 (.pointer (some (p 14)))]

set_option maxHeartbeats 400000 in
theorem kind_nil (w : World) : Calls Tryz.prog 15 #[.nilIface] w fun e w' => e = .returned (.int .i64 0) ∧ w' = w := by
  go_enter Tryz.func15, Tryz.ntmps15
  go_wp2
  go_ret
  exact ⟨rfl, rfl⟩



end Go.Proofs.YtigepihinflkdaaGreatDoor.GramErrs

namespace Go.Proofs.YtigepihinflkdaaGreatDoor.GramErrs
open Go.RowKit Go.Extern.Stop Go.Stop Go.Extern Go.Proofs.YtigepihinflkdaaGreatDoor.GramMath Go.Proofs.YtigepihinflkdaaGreatDoor.GramRow
set_option linter.unusedVariables false


/-- The rule that a finding names; -1: none. -/
def ruleZ (z : Nat × Option Nat) : Int :=
  match z with
  | (_ + 1, some i) => (i : Int)
  | _ => -1

end Go.Proofs.YtigepihinflkdaaGreatDoor.GramErrs

/-
  Texts that stand together: MatrixRTC.
-/
import Derived.Test.YtigepihinflkdaaGreatDoorBMatrixRT
namespace Go.Proofs.YtigepihinflkdaaGreatDoor.MatrixRT
open Go.RowKit Go.Proofs.YtigepihinflkdaaGreatDoor.GramMath Go.Proofs.YtigepihinflkdaaGreatDoor.GramRow Go.Proofs.YtigepihinflkdaaGreatDoor.SetsAlg Go.Proofs.YtigepihinflkdaaGreatDoor.MatrixMath Go.Proofs.YtigepihinflkdaaGreatDoor.MatrixPut Go.Proofs.YtigepihinflkdaaGreatDoor.GramApart Go.Proofs.YtigepihinflkdaaGreatDoor.MatrixClash Go.Proofs.YtigepihinflkdaaGreatDoor.GramLent
set_option linter.unusedVariables false
set_option linter.unusedSimpArgs false

def posX : Nat → Nat
  | 1 => 0
  | 2 => 2
  | _ => 3

end Go.Proofs.YtigepihinflkdaaGreatDoor.MatrixRT

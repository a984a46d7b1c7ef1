/-
  Texts that stand together: SpecMoreM, WordsMath3.
-/
import Derived.Test.YtgepbophnbbbpaaGreatDoorBagSpecNumM
import Derived.Test.YtgepbophnbbbpaaGreatDoorBWordsMath2
import Derived.Test.YtgepbophnbbbpaaGreatDoorBagWordsRow
namespace Go.Proofs.YtgepbophnbbbpaaGreatDoor.SpecMo
open Go.Proofs.YtgepbophnbbbpaaGreatDoor.GramMath Go.Proofs.YtgepbophnbbbpaaGreatDoor.GramOne Go.Proofs.YtgepbophnbbbpaaGreatDoor.LineRead Go.Proofs.YtgepbophnbbbpaaGreatDoor.LineMath Go.Proofs.YtgepbophnbbbpaaGreatDoor.SpecLn Go.Proofs.YtgepbophnbbbpaaGreatDoor.SpecMd Go.Proofs.YtgepbophnbbbpaaGreatDoor.SpecTx Go.Proofs.YtgepbophnbbbpaaGreatDoor.SpecPl
set_option linter.unusedVariables false
set_option linter.unusedSimpArgs false

end Go.Proofs.YtgepbophnbbbpaaGreatDoor.SpecMo

namespace Go.Proofs.YtgepbophnbbbpaaGreatDoor.WordsMath
open Go.Proofs.YtgepbophnbbbpaaGreatDoor.WordsBytes

def nq (x : W) : List UInt8 × Bool := (x.text, x.quoted || !plainW x.text)

theorem plain_take : ∀ r : List UInt8, allPlain (r.take (plainLen r)) = true
  | [] => rfl
  | c :: r => by
    unfold plainLen
    cases hp : plainN c.toNat with
    | false => simp [allPlain]
    | true =>
      rw [if_pos rfl, List.take_succ_cons, allPlain_cons, hp, plain_take r]
      rfl

end Go.Proofs.YtgepbophnbbbpaaGreatDoor.WordsMath

/-
  Texts that stand together: SpecFns3.
-/
import Derived.Test.YtjblkgephboajaaGreatDoorBagSpecFns1
import Derived.Test.YtjblkgephboajaaGreatDoorBagGramBuild4
import Derived.Maps.AppendAt
import Derived.Deep.AppendLies
namespace Go.Proofs.YtjblkgephboajaaGreatDoor.SpecFn
open Go.RowKit Go.Maps GramLess GramApart WordsMath WordsOne WordsBytes SpecLn SpecTx GramRow SpecMem
set_option linter.unusedVariables false
set_option linter.unusedSimpArgs false

theorem infoSt : (Tryz.prog.info? 9).map (fun i => (i.zero, i.size, i.bytes)) = some (some (.string ⟨#[]⟩), 1, 16) := by kernel_rfl
def encB (x : List UInt8) : Value := .string ⟨x.toArray⟩
end Go.Proofs.YtjblkgephboajaaGreatDoor.SpecFn
